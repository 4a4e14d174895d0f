/-
  Texts joined: WCrcMath, TellsPure, TellsPure2, Turn, TurnOk, TTells1, TTells2.
-/
import Derived.Test.YtblniomnhpedjaaGreatDoorG18WCrc
import Derived.Test.YtblniomnhpedjaaGreatDoorG29Firm
import Derived.Test.YtblniomnhpedjaaGreatDoorG15Asks
import Derived.Test.YtblniomnhpedjaaGreatDoorG42TLaw
import Derived.Test.YtblniomnhpedjaaGreatDoorG46TPutsL
namespace Go.Proofs.YtblniomnhpedjaaGreatDoor.Pl
def bs (x : Nat) : Nat:=if x % 2=1 then x / 2 ^^^ 3988292384 else x / 2
def bsN : Nat→Nat→Nat
 | 0,x=>x
 | n+1,x=>bsN n (bs x)
theorem xor_half (a b : Nat) : (a ^^^ b) / 2=a / 2 ^^^ b / 2:=by
 have:=Nat.shiftRight_xor_distrib (a:=a) (b:=b) (i:=1)
 simpa [Nat.shiftRight_eq_div_pow] using this
theorem xor_par (a b : Nat) : (a ^^^ b) % 2=(a % 2+b % 2) % 2:=by
 have h:=Nat.xor_mod_two_pow (a:=a) (b:=b) (n:=1)
 rw [Nat.pow_one] at h
 rw [h]
 rcases Nat.mod_two_eq_zero_or_one a with ha | ha <;> rcases Nat.mod_two_eq_zero_or_one b with hb | hb <;> rw [ha,hb] <;> rfl
theorem xor_same {a b c : Nat} (h : a ^^^ b=a ^^^ c) : b=c:=by
 have:=congrArg (fun z=>a ^^^ z) h
 simp only [← Nat.xor_assoc,Nat.xor_self,Nat.zero_xor] at this
 exact this
theorem bs_xor (a b : Nat) : bs (a ^^^ b)=bs a ^^^ bs b:=by
 unfold bs
 have hp:=xor_par a b
 rw [xor_half]
 rcases Nat.mod_two_eq_zero_or_one a with ha | ha <;> rcases Nat.mod_two_eq_zero_or_one b with hb | hb
 ·rw [if_neg (by omega),if_neg (by omega),if_neg (by omega)]
 ·rw [if_pos (by omega),if_neg (by omega),if_pos (by omega),Nat.xor_assoc]
 ·rw [if_pos (by omega),if_pos (by omega),if_neg (by omega)]
  rw [Nat.xor_assoc,Nat.xor_assoc,Nat.xor_comm (b / 2)]
 ·rw [if_neg (by omega),if_pos (by omega),if_pos (by omega)]
  rw [Nat.xor_assoc,← Nat.xor_assoc (3988292384) (b / 2),Nat.xor_comm 3988292384 (b / 2),Nat.xor_assoc (b / 2),Nat.xor_self,Nat.xor_zero]
theorem bsN_xor : ∀ (n a b : Nat),bsN n (a ^^^ b)=bsN n a ^^^ bsN n b
 | 0,_,_=>rfl
 | n+1,a,b=>by simp only [bsN]; rw [bs_xor,bsN_xor n]
theorem bsN_add : ∀ (m n x : Nat),bsN (m+n) x=bsN n (bsN m x)
 | 0,n,x=>by rw [Nat.zero_add]; rfl
 | m+1,n,x=>by rw [show m+1+n=(m+n)+1 by omega]; simp only [bsN]; exact bsN_add m n (bs x)
theorem bs_two (z : Nat) : bs (2 * z)=z:=by unfold bs; rw [if_neg (by omega)]; omega
theorem bsN_pow : ∀ (t z : Nat),bsN t (2 ^ t * z)=z
 | 0,z=>by simp [bsN]
 | t+1,z=>by
  simp only [bsN]
  rw [show 2 ^ (t+1) * z=2 * (2 ^ t * z) by rw [Nat.pow_succ]; rw [Nat.mul_comm (2 ^ t) 2,Nat.mul_assoc],bs_two,bsN_pow t z]
theorem nib_small : ∀ r : Fin 16,bsN 4 r.val=tabL.getD r.val 0:=by decide +kernel
theorem nib_bs (x : Nat) : nib x=bsN 4 x:=by
 have hx : x=2 ^ 4 * (x / 16) ^^^ x % 16:=by
  have h : x % 16<2 ^ 4:=Nat.mod_lt _ (by decide)
  have:=Nat.two_pow_add_eq_or_of_lt h (x / 16)
  have hxor : 2 ^ 4 * (x / 16) ^^^ x % 16=2 ^ 4 * (x / 16)+x % 16:=by
   rw [this]
   apply Nat.eq_of_testBit_eq
   intro i
   rw [Nat.testBit_xor,Nat.testBit_or]
   by_cases hi : i<4
   ·have : (2 ^ 4 * (x / 16)).testBit i=false:=by
     rw [Nat.testBit_two_pow_mul]
     simp; omega
    simp [this]
   ·have : (x % 16).testBit i=false:=Nat.testBit_lt_two_pow (Nat.lt_of_lt_of_le h (Nat.pow_le_pow_right (by decide) (by omega)))
    simp [this]
  rw [hxor]
  omega
 conv=>rhs; rw [hx]
 rw [bsN_xor,bsN_pow,nib_small ⟨x % 16,by omega⟩]
 rfl
theorem crcB_bs (s : Nat) (c : UInt8) : crcB s c=bsN 8 (s ^^^ c.toNat):=by
 unfold crcB
 rw [nib_bs,nib_bs,← bsN_add]
theorem bs_lt (x : Nat) (h : x<4294967296) : bs x<4294967296:=by
 unfold bs
 split
 ·exact Nat.xor_lt_two_pow (n:=32) (by omega) (by decide)
 ·omega
theorem bs_ne (x : Nat) (h : x<4294967296) (h0 : x≠0) : bs x≠0:=by
 unfold bs
 split
 ·intro e
  have e2 : x / 2=3988292384:=by
   have h1 : 3988292384 ^^^ (x / 2)=3988292384 ^^^ 3988292384:=by rw [Nat.xor_comm,e,Nat.xor_self]
   exact xor_same h1
  omega
 ·omega
theorem bsN_ne : ∀ (n x : Nat),x<4294967296→x≠0→bsN n x≠0
 | 0,_,_,h=>h
 | n+1,x,h,h0=>bsN_ne n (bs x) (bs_lt x h) (bs_ne x h h0)
theorem crcL_xor (r : List UInt8) : ∀ x d : Nat,Bq (x ^^^ d) r=Bq x r ^^^ bsN (8 * r.length) d:=by
 induction r with
 | nil=>intro x d; rfl
 | cons c r ih=>
  intro x d
  have e : crcB (x ^^^ d) c=crcB x c ^^^ bsN 8 d:=by
   rw [crcB_bs,crcB_bs,Nat.xor_assoc,Nat.xor_comm d,← Nat.xor_assoc,bsN_xor]
  show Bq (crcB (x ^^^ d) c) r=Bq (crcB x c) r ^^^ _
  rw [e,ih,← bsN_add]
  congr 2
  simp; omega
theorem crc_other (a b : List UInt8) (n p : Nat) (h : Bq 4294967295 b=Bq 4294967295 a ^^^ bsN n p) (hp : p<4294967296) (h0 : p≠0) : crc b≠crc a:=by
 intro e
 unfold crc at e
 have e2 : Bq 4294967295 b=Bq 4294967295 a:=xor_same e
 rw [e2] at h
 have : bsN n p=0:=by
  have:=congrArg (fun z=>Bq 4294967295 a ^^^ z) h
  simp only [Nat.xor_self,← Nat.xor_assoc,Nat.zero_xor] at this
  exact this.symm
 exact bsN_ne n p hp h0 this
end Go.Proofs.YtblniomnhpedjaaGreatDoor.Pl
namespace Go.Proofs.YtblniomnhpedjaaGreatDoor
def Cv (l l' : List UInt8) : Prop:=∃ p c c' r,l=p++c :: r∧l'=p++c' :: r∧c≠c'
theorem Cv.length {l l' : List UInt8} (h : Cv l l') : l'.length=l.length:=by
 obtain ⟨p,c,c',r,rfl,rfl,-⟩:=h
 simp
theorem Cv.ne {l l' : List UInt8} (h : Cv l l') : l'≠l:=by
 obtain ⟨p,c,c',r,rfl,rfl,hc⟩:=h
 intro e
 have:=List.append_cancel_left e
 injection this with this _
 exact hc this.symm
theorem Cv.part {a b x : List UInt8} (h : Cv (a++b) x) : (∃ a',Cv a a'∧x=a'++b)∨(∃ b',Cv b b'∧x=a++b'):=by
 obtain ⟨p,c,c',r,h1,rfl,hc⟩:=h
 rcases List.append_eq_append_iff.1 h1 with ⟨s,hp,hb⟩ | ⟨s,ha,hb⟩
 ·subst hp
  exact .inr ⟨s++c' :: r,⟨s,c,c',r,hb,rfl,hc⟩,by simp⟩
 ·cases s with
  | nil=>
   rw [List.append_nil] at ha
   subst ha
   exact .inr ⟨c' :: r,⟨[],c,c',r,hb.symm,rfl,hc⟩,by simp⟩
  | cons d s=>
   rw [List.cons_append] at hb
   injection hb with e1 e2
   subst e1 e2 ha
   exact .inl ⟨p++c' :: s,⟨p,c,c',s,rfl,rfl,hc⟩,by simp⟩
theorem Ow {l : List UInt8} {i : Nat} {b : UInt8} (hi : i<l.length) (hb : b≠0) : Cv l (l.modify i (· ^^^ b)):=by
 have h1 : l=l.take i++l[i] :: l.drop (i+1):=by rw [List.getElem_cons_drop,List.take_append_drop]
 have h2 : l.modify i (· ^^^ b)=l.take i++(l[i] ^^^ b) :: l.drop (i+1):=by
  rw [List.modify_eq_take_cons_drop hi]
 refine ⟨_,_,_,_,h1,h2,fun e=>hb ?_⟩
 have e2:=congrArg (fun z=>l[i] ^^^ z) e
 simp only [← UInt8.xor_assoc,UInt8.xor_self,UInt8.zero_xor] at e2
 exact e2.symm
theorem modify_zero (l : List UInt8) (i : Nat) : l.modify i (· ^^^ 0)=l:=by
 have : (fun x : UInt8=>x ^^^ 0)=id:=by funext x; simp
 rw [this,List.modify_id]
theorem sum4_turned {l l' : List UInt8} (h : Cv l l') : Ai l≠Ai l':=by
 obtain ⟨p,c,c',r,rfl,rfl,hc⟩:=h
 intro e
 have e1 : crc (p++c :: r)=crc (p++c' :: r):=by
  have h1:=congrArg Dm e
  unfold Ai at h1
  rwa [Ix _ (crc_lt _),Ix _ (crc_lt _)] at h1
 have hx : Bq 4294967295 (p++c' :: r)=Bq 4294967295 (p++c :: r) ^^^ Pl.bsN (8 * r.length+8) (c.toNat ^^^ c'.toNat):=by
  rw [Lj,Lj]
  generalize Bq 4294967295 p=a
  show Bq (crcB a c') r=Bq (crcB a c) r ^^^ _
  have e2 : crcB a c'=crcB a c ^^^ Pl.bsN 8 (c.toNat ^^^ c'.toNat):=by
   rw [Pl.crcB_bs,Pl.crcB_bs,← Pl.bsN_xor]
   congr 1
   rw [Nat.xor_assoc,← Nat.xor_assoc c.toNat,Nat.xor_self,Nat.zero_xor]
  rw [e2,Pl.crcL_xor,← Pl.bsN_add]
  congr 2
  omega
 have hlt : c.toNat ^^^ c'.toNat<256:=Nat.xor_lt_two_pow (n:=8) c.toNat_lt c'.toNat_lt
 refine Pl.crc_other _ _ _ _ hx (by omega) (fun h0=>hc ?_) e1.symm
 have h1:=congrArg (fun z=>c.toNat ^^^ z) h0
 simp only [← Nat.xor_assoc,Nat.xor_self,Nat.zero_xor,Nat.xor_zero] at h1
 exact UInt8.toNat.inj h1.symm
section
variable {cs : List UInt8→List UInt8} (hcs : ∀ b,(cs b).length=4) (hone : ∀ l l',Cv l l'→cs l≠cs l')
include hcs hone
omit hcs in
theorem Lr {M M' : List UInt8} (hl : M.length=M'.length) (h : Cv (M++cs M) (M'++cs M')) : False:=by
 rcases h.part with ⟨a,ha,e⟩ | ⟨b,hb,e⟩
 ·have h1:=List.append_inj e (by rw [ha.length,hl])
  rw [← h1.1] at ha
  exact hone _ _ ha h1.2.symm
 ·have h1:=List.append_inj e hl.symm
  rw [h1.1] at h1
  exact hb.ne h1.2.symm
omit hone in
theorem headW_is {b : List UInt8} (h : (Cl cs b).2=true) (hl : 12≤b.length) : b.take 12=hdW cs (Cl cs b).1:=by
 have hlt : (b.take 12).length=12:=by rw [List.length_take]; omega
 obtain ⟨S,hS⟩ : ∃ S,Cl cs b=if 2129920<S then ((0 : Nat),false) else (S,(b.take 12).isPrefixOf (hdW cs S)):=⟨_,rfl⟩
 rw [hS] at h ⊢
 by_cases hb : 2129920<S
 ·rw [if_pos hb] at h
  cases h
 ·rw [if_neg hb] at h ⊢
  obtain ⟨c,hc⟩:=Du.1 h
  have h2:=congrArg List.length hc
  rw [Dp hcs,List.length_append,hlt] at h2
  have : c = []:=List.eq_nil_of_length_eq_zero (by omega)
  show b.take 12=hdW cs S
  rw [hc,this,List.append_nil]
theorem headW_turned {n : Nat} {h' x : List UInt8} (h : Cv (hdW cs n) h') : (Cl cs (h'++x)).2=false:=by
 rw [Bool.eq_false_iff]
 intro ht
 have hl:=h.length
 rw [Dp hcs] at hl
 have h1:=headW_is hcs ht (by rw [List.length_append]; omega)
 rw [List.take_left' hl] at h1
 rw [h1] at h
 exact Lr hone (by rw [Ek,Ek]) h
theorem Oq {g : List (List UInt8)} {l' x : List UInt8} (hr : right g=true) (h : Cv (grp cs g) l') : (C6 cs (l'++x)).2.2=false:=by
 have hb : ¬ 2129920<(Ag g).length:=by have:=Fr hr; omega
 unfold grp at h
 show (De cs _ _).2.2=false
 rcases h.part with ⟨h',hh,rfl⟩ | ⟨q,hq,rfl⟩
 ·unfold De
  rw [List.append_assoc,headW_turned hcs hone hh,if_pos (.inl rfl)]
 ·have hl:=Dp hcs (Ag g).length
  have hql:=hq.length
  rw [List.length_append,hcs] at hql
  rw [List.append_assoc,I4 hcs _ _ hb]
  unfold De
  have hlen : ¬ (hdW cs (Ag g).length++(q++x)).length<12:=by rw [List.length_append,hl]; omega
  rw [if_neg (fun e=>e.elim (fun e=>by cases e) hlen),List.drop_left' hl]
  simp only
  have e1 : (q++x).take (Ag g).length=q.take (Ag g).length:=List.take_append_of_le_length (by omega)
  have e2 : (q++x).drop (Ag g).length=q.drop (Ag g).length++x:=List.drop_append_of_le_length (by omega)
  rw [e1,e2]
  have hbl : (q.take (Ag g).length).length=(Ag g).length:=by rw [List.length_take]; omega
  have hsl : (q.drop (Ag g).length).length=4:=by rw [List.length_drop]; omega
  generalize Bz ((q.take (Ag g).length).length+1) (q.take (Ag g).length) 0 ((Ag g).length : Int)=R
  unfold recB
  split
  ·rfl
  ·rw [if_neg (by omega),List.take_left' hsl]
   unfold sumB
   have hp : (q.drop (Ag g).length).isPrefixOf (cs (q.take (Ag g).length))=false:=by
    rw [Bool.eq_false_iff]
    intro ht
    obtain ⟨c,hc⟩:=Du.1 ht
    have h2:=congrArg List.length hc
    rw [hcs,List.length_append,hsl] at h2
    have hc0 : c = []:=List.eq_nil_of_length_eq_zero (by omega)
    rw [hc0,List.append_nil] at hc
    have hqq : q=q.take (Ag g).length++cs (q.take (Ag g).length):=by rw [hc,List.take_append_drop]
    rw [hqq] at hq
    exact Lr hone hbl.symm hq
   rw [if_pos (.inl hp)]
   exact hp
theorem groupW_torn {g : List (List UInt8)} {j : Nat} {t : List UInt8} (hr : right g=true) (hj : j<(grp cs g).length) (h : Cv ((grp cs g).take j) t) : (C6 cs t).2.1=0:=by
 have hb : ¬ 2129920<(Ag g).length:=by have:=Fr hr; omega
 have hgl:=D5 hcs g
 have hl:=Dp hcs (Ag g).length
 have htl : t.length=j:=by rw [h.length,List.length_take]; omega
 show (De cs _ _).2.1=0
 by_cases hc : (Cl cs t).2=false∨t.length<12
 ·unfold De
  rw [if_pos hc]
 ·have ht : (Cl cs t).2=true:=by
   cases hq : (Cl cs t).2 with
   | true=>rfl
   | false=>exact absurd (.inl hq) hc
  have h12 : 12≤t.length:=by
   by_cases h1 : 12≤t.length
   ·exact h1
   ·exact absurd (.inr (by omega)) hc
  have hd:=headW_is hcs ht h12
  have e0 : (grp cs g).take j=hdW cs (Ag g).length++(Ag g++cs (Ag g)).take (j - 12):=by
   unfold grp
   rw [List.take_append,List.take_of_length_le (by omega),hl]
  rw [e0] at h
  rcases h.part with ⟨h',hh,e⟩ | ⟨q,hq,e⟩
  ·have hh12 : h'.length=12:=by rw [hh.length,hl]
   rw [e,List.take_left' hh12] at hd
   rw [hd] at hh
   exact (Lr hone (by rw [Ek,Ek]) hh).elim
  ·have hql : q.length=j - 12:=by rw [e,List.length_append,hl] at htl; omega
   rw [e,I4 hcs _ _ hb]
   unfold De
   have hlen : ¬ (hdW cs (Ag g).length++q).length<12:=by rw [List.length_append,hl]; omega
   rw [if_neg (fun e=>e.elim (fun e=>by cases e) hlen),List.drop_left' hl]
   simp only
   generalize Bz ((q.take (Ag g).length).length+1) (q.take (Ag g).length) 0 ((Ag g).length : Int)=R
   unfold recB
   split
   ·rfl
   ·split
    ·rfl
    ·unfold sumB
     have hs : ((q.drop (Ag g).length).take 4).length<4:=by rw [List.length_take,List.length_drop]; omega
     rw [if_pos (.inr hs)]
theorem Ne : ∀ (gs : List (List (List UInt8))) (p x l' : List UInt8) (f : Nat),(∀ g∈gs,right g=true)→gs.length<f→Cv (laid cs gs) l'→B2 cs f (p++(l'++x)) p.length=none
 | [],p,x,l',f,_,_,h=>by
  obtain ⟨a,c,c',r,h1,-⟩:=h
  have e0 : laid cs [] = []:=rfl
  rw [e0] at h1
  exact absurd h1.symm (by simp)
 | g :: gs,p,x,l',f+1,hr,hf,h=>by
  have hg:=hr g (List.mem_cons_self ..)
  have hl:=D5 hcs g
  rw [Gp] at h
  have hll:=h.length
  rw [List.length_append] at hll
  rw [Ew _ _ _ _ (by rw [List.length_append,List.length_append]; omega),List.drop_left]
  rcases h.part with ⟨g',hg',rfl⟩ | ⟨y,hy,rfl⟩
  ·rw [List.append_assoc]
   unfold C2
   rw [if_pos (.inl (Oq hcs hone hg hg'))]
  ·rw [List.append_assoc,Ic hcs g _ hg]
   have ih:=Ne gs (p++grp cs g) x y f (fun z hz=>hr z (List.mem_cons_of_mem _ hz)) (by rw [List.length_cons] at hf; omega) hy
   rw [List.append_assoc,List.length_append] at ih
   show C2 p.length (g,(grp cs g).length,true) (B2 cs f (p++(grp cs g++(y++x))) (p.length+(grp cs g).length))=none
   rw [ih]
   unfold C2
   rw [if_neg (fun e=>e.elim (fun e=>by cases e) (fun e=>by have:=e.1; simp only at this; omega)),if_neg (by simp only; omega)]
   rfl
omit hone in
theorem M2 (t : List UInt8) (ht : (C6 cs t).2.1=0) : ∀ (gs : List (List (List UInt8))) (p : List UInt8) (f : Nat),(∀ g∈gs,right g=true)→gs.length+1<f→p++laid cs gs ≠ [] →
  B2 cs f (p++(laid cs gs++t)) p.length=none∨B2 cs f (p++(laid cs gs++t)) p.length=some (gs,(p++laid cs gs).length)
 | [],p,f+1,_,_,hne=>by
  have e0 : laid cs [] = []:=rfl
  rw [e0,List.append_nil] at hne ⊢
  rw [List.nil_append]
  have hp:=List.length_pos_iff.2 hne
  by_cases h0 : t = []
  ·rw [h0,List.append_nil,Hm _ _ _ _ (Nat.lt_irrefl _)]
   exact .inr rfl
  ·have htp:=List.length_pos_iff.2 h0
   rw [Ew _ _ _ _ (by rw [List.length_append]; omega),List.drop_left]
   unfold C2
   split
   ·exact .inl rfl
   ·first
    | exact .inr rfl
    | (rw [if_pos ht]; exact .inr rfl)
 | g' :: gs,p,f+1,h,hf,_=>by
  have hg':=h g' (List.mem_cons_self ..)
  have hl:=D5 hcs g'
  have hne : p++grp cs g'++laid cs gs ≠ []:=fun e=>by
   have:=congrArg List.length e
   rw [List.length_append,List.length_append,List.length_nil] at this
   omega
  have ih:=M2 t ht gs (p++grp cs g') f (fun x hx=>h x (List.mem_cons_of_mem _ hx)) (by rw [List.length_cons] at hf; omega) hne
  have e : p++(laid cs (g' :: gs)++t)=p++(grp cs g'++(laid cs gs++t)):=by rw [Gp,List.append_assoc]
  have e2 : p++grp cs g'++(laid cs gs++t)=p++(grp cs g'++(laid cs gs++t)):=by rw [List.append_assoc]
  rw [e2,List.length_append] at ih
  rw [e,Ew _ _ _ _ (by rw [List.length_append,List.length_append]; omega),List.drop_left,Ic hcs g' _ hg']
  show C2 p.length (g',(grp cs g').length,true) (B2 cs f (p++(grp cs g'++(laid cs gs++t))) (p.length+(grp cs g').length))=_∨C2 p.length (g',(grp cs g').length,true) (B2 cs f (p++(grp cs g'++(laid cs gs++t))) (p.length+(grp cs g').length))=_
  rcases ih with ih | ih
  ·left
   rw [ih]
   unfold C2
   rw [if_neg (fun e=>e.elim (fun e=>by cases e) (fun e=>by have:=e.1; simp only at this; omega)),if_neg (by simp only; omega)]
   rfl
  ·right
   rw [ih,Lx (by omega),Gp,List.append_assoc]
end
theorem O7 {gs : List (List (List UInt8))} {tail l' : List UInt8} (hr : ∀ g∈gs,right g=true) (ht : H8 gs tail) (h : Cv (laid Ai gs++tail) l') :
  B2 Ai (l'.length+1) l' 0=none∨B2 Ai (l'.length+1) l' 0=some (gs,(laid Ai gs).length):=by
 have hone : ∀ l l',Cv l l'→Ai l≠Ai l':=fun l l' h=>sum4_turned h
 have hm:=I1 gs
 have hll:=h.length
 rw [List.length_append] at hll
 rcases h.part with ⟨a,ha,rfl⟩ | ⟨t,htt,rfl⟩
 ·left
  have:=Ne Cu hone gs [] tail a ((a++tail).length+1) hr (by omega) ha
  simpa using this
 ·rcases ht with rfl | ⟨hne,g,j,hg,hj,rfl⟩
  ·obtain ⟨p,c,c',r,h1,-⟩:=htt
   exact absurd h1.symm (by simp)
  ·have h0:=groupW_torn Cu hone hg hj htt
   have hpos:=List.length_pos_iff.2 hne
   have htl : 1≤t.length:=by
    obtain ⟨p,c,c',r,-,h2,-⟩:=htt
    rw [h2,List.length_append,List.length_cons]
    omega
   have:=M2 Cu t h0 gs [] ((laid Ai gs++t).length+1) hr (by rw [List.length_append]; omega) (by simpa using hne)
   simpa using this
end Go.Proofs.YtblniomnhpedjaaGreatDoor
namespace Go.Proofs.YtblniomnhpedjaaGreatDoor
variable {z n : Nm} {S : Dk} {all : List UInt8}
theorem read_turn (h : Bc z S all) (hz : An z=true) (hon : S.on=true) (hf : S.fails S.n=false) (at_ : Int) (b : UInt8) : ∃ all',Cp (S.turn n at_ b).1 z=(all',0)∧(all'=all∨b≠0∧Cv all all'):=by
 unfold Dk.turn
 cases hl : look S.dir n with
 | none=>exact ⟨all,h.read hz hon hf, .inl rfl⟩
 | some f=>
  dsimp only
  by_cases hr : at_<0∨((S.bytes f).length : Int)≤at_
  ·rw [if_pos hr]
   exact ⟨all,h.read hz hon hf, .inl rfl⟩
  ·rw [if_neg hr]
   dsimp only
   have hof : ({ S with files:=S.files.modify f fun x=>{ x with b:=x.b.modify at_.toNat (· ^^^ b) } } : Dk).onFile z=match look S.dir z with
     | none=>.error 32
     | some f=>.ok (f,S.fails S.n):=by
    show S.onFile z=_
    unfold Dk.onFile
    rw [if_neg (by simp [hon]),if_neg (by simp [hz])]
    cases look S.dir z <;> rfl
   unfold Cp Dk.read
   rw [hof]
   rcases h with ⟨h,e⟩ | ⟨f',h⟩
   ·rw [h.lookD,e]
    exact ⟨[],rfl, .inl rfl⟩
   ·obtain ⟨x,h1,h2,h3⟩:=h.file
    have hb0 : S.bytes f'=all:=by simp [Dk.bytes,h1,h2]
    rw [h.lookD,hf]
    by_cases hff : f=f'
    ·subst hff
     rw [hb0] at hr
     have hb1 : ({ S with files:=S.files.modify f fun x=>{ x with b:=x.b.modify at_.toNat (· ^^^ b) } } : Dk).bytes f=all.modify at_.toNat (· ^^^ b):=by
      simp [Dk.bytes,h1,h2]
     refine ⟨all.modify at_.toNat (· ^^^ b),by simp only [hb1]; rfl,?_⟩
     by_cases hb : b=0
     ·subst hb
      exact .inl (modify_zero _ _)
     ·exact .inr ⟨hb,Ow (by omega) hb⟩
    ·have hb1 : ({ S with files:=S.files.modify f fun x=>{ x with b:=x.b.modify at_.toNat (· ^^^ b) } } : Dk).bytes f'=all:=by
      simp [Dk.bytes,h1,h2,hff]
     exact ⟨all,by simp only [hb1]; rfl, .inl rfl⟩
theorem look_turn {gs : List (List (List UInt8))} {tail : List UInt8} (h : On z S gs tail) (hz : An z=true) (hon : S.on=true) (hf : S.fails S.n=false) (at_ : Int) (b : UInt8) :
  (∃ x y,Cc (S.turn n at_ b).1 z=(0,some (gs,x,y)))∨(Cc (S.turn n at_ b).1 z=(52,none)∧b≠0):=by
 obtain ⟨all',h1,h2⟩:=read_turn (n:=n) h.2.2 hz hon hf at_ b
 unfold Cc
 rw [h1]
 dsimp only
 rw [if_neg (by decide)]
 rcases h2 with rfl | ⟨hb,ht⟩
 ·rw [groups_on h.1 h.2.1]
  exact .inl ⟨_,_,rfl⟩
 ·rcases O7 h.1 h.2.1 ht with e | e
  ·rw [e]
   exact .inr ⟨rfl,hb⟩
  ·rw [e]
   exact .inl ⟨_,_,rfl⟩
theorem Ob {α β : Type} (h : α→β) (g : α→α) (hg : ∀ x,h (g x)=h x) : ∀ (l : List α) (i : Nat),(l.modify i g).map h=l.map h
 | [],i=>by simp
 | x :: l,0=>by simp [hg]
 | x :: l,i+1=>by simp [Ob h g hg l i]
theorem turn_bulk (S : Dk) (n : Nm) (at_ : Int) (b : UInt8) : (S.turn n at_ b).1.bulk=S.bulk:=by
 unfold Dk.turn
 cases look S.dir n with
 | none=>rfl
 | some f=>
  dsimp only
  split
  ·rfl
  ·unfold Dk.bulk
   dsimp only
   rw [Ob (fun f : Fl=>f.b.length) _ (fun x=>by simp),List.length_modify]
theorem turn_same (S : Dk) (n : Nm) (at_ : Int) (b : UInt8) : (S.turn n at_ b).1.on=S.on∧(S.turn n at_ b).1.sure=S.sure∧(S.turn n at_ b).1.acts=S.acts:=by
 unfold Dk.turn
 cases look S.dir n with
 | none=>exact ⟨rfl,rfl,rfl⟩
 | some f=>
  dsimp only
  split <;> exact ⟨rfl,rfl,rfl⟩
theorem turn_zero {S : Dk} {n : Nm} {f : Nat} {at_ : Int} (b : UInt8) (hl : look S.dir n=some f) (h0 : 0≤at_) (h1 : at_<(S.bytes f).length) : (S.turn n at_ b).2=0:=by
 unfold Dk.turn
 rw [hl]
 dsimp only
 rw [if_neg (by omega)]
theorem size_look {S : Dk} {n : Nm} {f : Nat} (hl : look S.dir n=some f) : S.size n=((S.bytes f).length : Int):=by
 unfold Dk.size
 rw [hl]
theorem names_look {S : Dk} (_h : Ok S) {k : Nat} (hk : k<S.dir.length) : ∃ f,look S.dir (S.dir[k]).1=some f:=by
 have hm : S.dir[k]∈S.dir:=List.getElem_mem hk
 cases hl : look S.dir (S.dir[k]).1 with
 | some f=>exact ⟨f,rfl⟩
 | none=>exact absurd rfl (look_none hl _ hm)
end Go.Proofs.YtblniomnhpedjaaGreatDoor
namespace Go.Proofs.YtblniomnhpedjaaGreatDoor
open Go.RowKit
section
variable {w w' : World} {F : Nat→Prop} {d : Nat} {S : Dk} {G : Gh}
theorem Jt (h : Rep w F d S G) (n : Nm) : (Instr.lookup 85 (.map G.now) (.string (Ae n)) false).run Tryz.prog w = .ok (pv G.fb (look S.dir n)) w:=by
 cases e : G.now with
 | some b=>exact Dw h e n
 | none=>
  have hm:=h.now
  rw [e] at hm
  have h2 : dv G.fb S.dir = []:=hm
  have h3 : S.dir = []:=List.map_eq_nil_iff.1 h2
  rw [h3]
  exact Mg w n
set_option maxRecDepth 20000 in
theorem turn_none (h : Rep w F d S G) (n : Nm) (at_ : Int) (b : UInt8) (hl : look S.dir n=none) : Calls Tryz.prog 28 #[.pointer (some ⟨d,0,none⟩), .string (Ae n), .int .i64 at_, .int .u8 (b.toNat : Int)] w fun e w'=>e = .returned (.int .i64 2)∧w'=w:=by
 have hd:=h.disk
 unfold B3 at hd
 have x2:=Ad hd 2
 have hlk:=Jt h n
 rw [hl] at hlk
 have hlk' : (Instr.lookup 85 (.map G.now) (.string (Ae n)) false).run Tryz.prog w = .ok (.pointer none) w:=hlk
 clear hlk
 go_enter Tryz.func28,Tryz.ntmps28
 go_wp2
 go_ret
 exact ⟨rfl,rfl⟩
set_option maxRecDepth 20000 in
theorem turn_out (h : Rep w F d S G) (n : Nm) (at_ : Int) (b : UInt8) {f : Nat} (hl : look S.dir n=some f) (ho : at_<0∨((S.bytes f).length : Int)≤at_) : Calls Tryz.prog 28 #[.pointer (some ⟨d,0,none⟩), .string (Ae n), .int .i64 at_, .int .u8 (b.toNat : Int)] w fun e w'=>e = .returned (.int .i64 2)∧w'=w:=by
 have hd:=h.disk
 unfold B3 at hd
 have x2:=Ad hd 2
 have hlk:=Jt h n
 rw [hl] at hlk
 have hlk' : (Instr.lookup 85 (.map G.now) (.string (Ae n)) false).run Tryz.prog w = .ok (.pointer (some ⟨G.fb f,0,none⟩)) w:=hlk
 obtain ⟨x,hx,hbx,hlv,f2,b2⟩:=h.file hl
 obtain ⟨ra,rc,hrv⟩:=Db b2
 rw [hrv] at f2
 have y0:=Ad f2 0
 rw [hbx] at ho
 clear hlk f2 b2 hrv hbx
 obtain ⟨len,hlen⟩ : ∃ len,len=x.b.length:=⟨_,rfl⟩
 rw [← hlen] at y0 ho
 clear hlen
 rcases Int.lt_or_le at_ 0 with hlt | hlt
 all_goals
  go_enter Tryz.func28,Tryz.ntmps28
  go_wp2
  go_ret
  exact ⟨rfl,rfl⟩
end
end Go.Proofs.YtblniomnhpedjaaGreatDoor
namespace Go.Proofs.YtblniomnhpedjaaGreatDoor
open Go.RowKit
theorem Ok.modify {S : Dk} (h : Ok S) (f : Nat) (g : Fl→Fl) (hg : ∀ x,(g x).sure=x.sure∧(g x).b.length=x.b.length) : Ok { S with files:=S.files.modify f g } where
 sortS:=h.sortS
 valid:=h.valid
 dir:=h.dir
 one:=h.one
 idS i hi:=by
  show i<(S.files.modify f g).length
  rw [List.length_modify]
  exact h.idS i hi
 idA i hi:=by
  show i<(S.files.modify f g).length
  rw [List.length_modify]
  exact h.idA i hi
 idM i hi:=by
  show i<(S.files.modify f g).length
  rw [List.length_modify]
  exact h.idM i hi
 lens i y hy:=by
  rcases Fa hy with ⟨_,hy'⟩ | ⟨rfl,x,hx,rfl⟩
  ·exact h.lens i y hy'
  ·rw [(hg x).1,(hg x).2]
   exact h.lens i x hx
section
variable {w w' : World} {F : Nat→Prop} {d : Nat} {S : Dk} {G : Gh}
theorem Rep.rebyte (h : Rep w F d S G) {f : Nat} (hf : f∈ids S.dir) {x : Fl} (hx : S.files[f]? = some x) (g : Fl→Fl) (hg : ∀ x,(g x).sure=x.sure∧(g x).b.length=x.b.length) {q : Nat} (hq : (G.rv f).ownBlock=some q) (hc : Chg (· = q) w w')
  (hrow : w'.ownsRow 0 5 1 (G.rv f) x.b.length (bc (g x).b)) : Rep w' F d { S with files:=S.files.modify f g } G:=by
 have hlf:=Do h.ok hf
 obtain ⟨b1,b2,b3⟩:=h.bytes f x hlf hx
 obtain ⟨cur,hcur⟩:=Av b2 hq
 have hne : ∀ k o,w.heap[k]? = some o→tag o≠5→k≠q:=fun k o ho ht e=>by
  subst e
  exact Ap hcur ho (fun e=>ht e.symm) rfl
 have hmo : ∀ {o : Option Nat} {l : List (Value × Value)},Bd w F o l→Bd w' F o l:=fun {o l} hm=>hm.keep hc (fun b e e2=>by
  rw [e] at hm
  subst e2
  exact hm.2.ne hcur rfl) (fun _ h=>h)
 have hused : A5 (S.files.modify f g) S.dir=A5 S.files S.dir:=by
  unfold A5
  congr 1
  refine List.map_congr_left fun p _=>?_
  unfold Ax
  by_cases e : p.2=f
  ·rw [e,List.getElem?_modify_eq,hx]
   simp [(hg x).2]
  ·have e3 : ¬ f=p.2:=fun e2=>e e2.symm
   rw [List.getElem?_modify]
   simp [e3]
 exact
  {
   ok:=h.ok.modify f g hg
   disk:=by
    have:=hc.keep h.disk (hne _ _ h.disk (show 89≠5 by decide))
    rw [this]
    unfold B3
    show _=some (Obj.cells #[_, .int .i64 ((A5 (S.files.modify f g) S.dir : Nat) : Int),_,_,_,_,_,_,_] _)
    rw [hused]
    rfl
   inD:=h.inD
   roomy:=h.roomy
   cutv:=h.cutv
   now:=hmo h.now
   sure:=hmo h.sure
   both:=h.both
   bare:=h.bare
   fails:=by
    obtain ⟨l,g1,g2⟩:=h.fails
    exact ⟨l,hmo g1,g2⟩
   two:=h.two
   three:=h.three
   row:=A6 h.row hc (fun k hk=>by
    obtain ⟨cur2,hcur2⟩:=Av h.row hk
    exact hne k _ hcur2 (show 111≠5 by decide))
   rowF:=h.rowF
   many:=h.many
   acts:=h.actsKeep hc (fun k c t h1 h2 e=>by
    subst e
    exact Dq hcur (by decide) _ c t h1 h2 rfl) (fun _ h=>h)
   files:=fun i hi=>⟨(h.files i hi).1,hc.keep (h.files i hi).2 (hne _ _ (h.files i hi).2 (show 118≠5 by decide))⟩
   inj:=h.inj
   bytes:=fun i y hi hy=>by
    rcases Fa hy with ⟨hn,hy'⟩ | ⟨rfl,x',hx',rfl⟩
    ·obtain ⟨c1,c2,c3⟩:=h.bytes i y hi hy'
     exact ⟨c1,A6 c2 hc (fun k hk e=>hn (h.apart i f k hi hlf hk (e ▸ hq))),c3⟩
    ·rw [hx] at hx'
     injection hx' with hx'
     subst hx'
     rw [(hg x).1,(hg x).2]
     exact ⟨b1,hrow,b3⟩
   apart:=h.apart }
theorem b_xor (x y : UInt8) : bits .xor .u8 (x.toNat : Int) (y.toNat : Int)=((x ^^^ y).toNat : Int):=by
 rw [u8_xor_nat _ _ x.toNat_lt y.toNat_lt,UInt8.toNat_xor]
theorem bc_modify (l : List UInt8) (i : Nat) (b : UInt8) (h : i<l.length) : bc (l.modify i (· ^^^ b))=(bc l).set i (.int .u8 (((l[i]'h) ^^^ b).toNat : Int)):=by
 apply List.ext_getElem?
 intro j
 unfold bc
 rw [List.getElem?_map,List.getElem?_modify,List.getElem?_set]
 by_cases e : i=j
 ·subst e
  simp [h]
 ·simp [e]
set_option maxRecDepth 20000 in
set_option maxHeartbeats 400000 in
theorem turn_ok (h : Rep w F d S G) (n : Nm) (at_ : Nat) (b : UInt8) {f : Nat} (hl : look S.dir n=some f) (ho : at_<(S.bytes f).length) : Calls Tryz.prog 28 #[.pointer (some ⟨d,0,none⟩), .string (Ae n), .int .i64 (at_ : Int), .int .u8 (b.toNat : Int)] w fun e w'=>e = .returned (.int .i64 0) ∧
  Rep w' F d { S with files:=S.files.modify f fun x=>{ x with b:=x.b.modify at_ (· ^^^ b) } } G∧Chg F w w':=by
 have hd:=h.disk
 unfold B3 at hd
 have x2:=Ad hd 2
 have hlk:=Jt h n
 rw [hl] at hlk
 have hlk' : (Instr.lookup 85 (.map G.now) (.string (Ae n)) false).run Tryz.prog w = .ok (.pointer (some ⟨G.fb f,0,none⟩)) w:=hlk
 obtain ⟨x,hx,hbx,hlv,f2,b2⟩:=h.file hl
 have b3:=(h.bytes f x hlv hx).2.2
 rw [hbx] at ho
 obtain ⟨g,cap,cur,hrv,hcur,hle,hmx,hcs,htk⟩ : ∃ g cap cur,G.rv f = .slice (some ⟨g,0,none⟩) x.b.length cap∧w.heap[g]? = some (.cells cur 5 (0,0))∧x.b.length≤cap∧cap≤maxLen∧cur.size=cap * 1∧cur.toList.take (x.b.length * 1)=bc x.b:=by
  rcases b2.2 with ⟨e1,e2⟩ | ⟨g,cap,cur,e1,_,e2,e3,e4,e5,e6⟩
  ·omega
  ·exact ⟨g,cap,cur,e1,e2,e3,e4,e5,e6⟩
 have hgF : F g:=b3 g (by rw [hrv]; rfl)
 have hv : w.cell? ⟨g,at_,none⟩=some (.int .u8 ((x.b[at_]'ho).toNat : Int)):=by
  rw [hrv] at b2
  have:=b2.cellAt at_ (by omega)
  rw [D1 x.b at_ ho] at this
  exact this
 have tg:=Au hcur at_
 have hset:=Az hcur at_ (.int .u8 (((x.b[at_]'ho) ^^^ b).toNat : Int))
 have hnew : (w.setCell ⟨g,at_,none⟩ (.int .u8 (((x.b[at_]'ho) ^^^ b).toNat : Int))).ownsRow 0 5 1 (G.rv f) x.b.length (bc (x.b.modify at_ (· ^^^ b))):=by
  rw [hrv]
  refine ⟨by rw [Co,List.length_modify]; omega,Or.inr ⟨g,cap,_,rfl,Nat.zero_le _,hset,hle,hmx,by rw [Array.size_setIfInBounds]; exact hcs,?_⟩⟩
  rw [bc_modify _ _ _ ho,← htk,Array.toList_setIfInBounds,List.take_set]
 have hfin:=h.rebyte (C8 hl) hx (fun x=>{ x with b:=x.b.modify at_ (· ^^^ b) }) (fun y=>⟨rfl,List.length_modify ..⟩) (q:=g) (by rw [hrv]; rfl) (B8 w g at_ _) hnew
 have hcF : Chg F w (w.setCell ⟨g,at_,none⟩ (.int .u8 (((x.b[at_]'ho) ^^^ b).toNat : Int))):=(B8 w g at_ _).mono fun k _ e=>by rw [e]; exact hgF
 rw [hrv] at f2
 have y0:=Ad f2 0
 have hxo:=b_xor (x.b[at_]'ho) b
 have HF:=Ab hfin
 have HC:=Ab hcF
 obtain ⟨c,hcv⟩ : ∃ c,c=x.b[at_]'ho:=⟨_,rfl⟩
 rw [← hcv] at hv hxo HF HC
 obtain ⟨len,hlen⟩ : ∃ len,len=x.b.length:=⟨_,rfl⟩
 rw [← hlen] at y0 hle
 have hal : at_<len:=by omega
 clear hfin hcF hnew hset hlk f2 b2 b3 htk hlen hcv hcs hbx ho hx hrv
 go_enter Tryz.func28,Tryz.ntmps28
 go_wp2
 go_ret
 exact ⟨rfl,HF.out,HC.out⟩
theorem turn_rep (h : Rep w F d S G) (n : Nm) (at_ : Int) (b : UInt8) : Calls Tryz.prog 28 #[.pointer (some ⟨d,0,none⟩), .string (Ae n), .int .i64 at_, .int .u8 (b.toNat : Int)] w fun e w'=>e = .returned (.int .i64 (S.turn n at_ b).2) ∧
  Rep w' F d (S.turn n at_ b).1 G∧Chg F w w':=by
 unfold Dk.turn
 cases hl : look S.dir n with
 | none=>
  refine (turn_none h n at_ b hl).mono ?_
  rintro e w' ⟨he,rfl⟩
  exact ⟨he,h,Chg.refl _ _⟩
 | some f=>
  dsimp only
  by_cases ho : at_<0∨((S.bytes f).length : Int)≤at_
  ·rw [if_pos ho]
   refine (turn_out h n at_ b hl ho).mono ?_
   rintro e w' ⟨he,rfl⟩
   exact ⟨he,h,Chg.refl _ _⟩
  ·rw [if_neg ho]
   obtain ⟨k,rfl⟩ : ∃ k : Nat,at_=(k : Int):=⟨at_.toNat,by omega⟩
   exact turn_ok h n k b hl (by omega)
end
end Go.Proofs.YtblniomnhpedjaaGreatDoor
namespace Go.Proofs.YtblniomnhpedjaaGreatDoor
open Go.RowKit
theorem read_begun {T : Dk} (hc : Bx T) (z : Nm) : T.begun.read z=T.read z:=by
 have hon:=Ff hc
 unfold Dk.begun
 rw [if_neg (by rw [hon]; simp)]
 have hof : T.next.onFile z=T.onFile z:=by
  unfold Dk.onFile
  have h1 : T.next.on=true:=by
   unfold Dk.on
   rw [show T.next.cut=T.cut from rfl,hc.1]
  rw [h1,hon]
  show (if _ then _ else if _ then _ else match look T.dir z with | none=>_ | some f=>Except.ok (f,T.fails (T.n+1)))=_
  rw [hc.2,hc.2]
  cases look T.dir z <;> rfl
 unfold Dk.read
 rw [hof]
 rfl
theorem look_begun {T : Dk} (hc : Bx T) (z : Nm) : Cc T.begun z=Cc T z:=by
 unfold Cc Cp
 rw [read_begun hc]
theorem calm_turn {S : Dk} (hc : Bx S) (n : Nm) (a : Int) (b : UInt8) : Bx (S.turn n a b).1:=by
 unfold Dk.turn
 cases look S.dir n with
 | none=>exact hc
 | some f=>
  dsimp only
  split <;> exact hc
def Eh (w : World) (r k : Nat) : Prop:=k=r ∨ ∃ u,w.cell? ⟨r,0,none⟩=some u∧u.ownBlock=some k
structure TWorld (B : Nat) (w : World) (x d g t b r : Nat) (F : Nat→Prop) (S : Dk) (lp : List Af) (m : Nat) : Prop where
 world : ∃ bad most last,Dr w x d t r (.slice none 0 0) false bad most last∧0≤most∧most≤4611686018427387904
 calm : Bo B w F d g t b D3 S lp m Dx
 ref : RTab w r lp
 apart : ∀ k,k=x∨Eh w r k→k<w.heap.size∧¬ (F k∨k=g∨k=t)
 other : ∀ k,Eh w r k→k≠x
 low : B≤x
section
variable {B : Nat} {w w' : World} {F : Nat→Prop} {x d g t b r : Nat} {S : Dk} {lp : List Af} {ps : List Al} {v : Value} {m : Nat}
theorem Eh.back {k : Nat} (h : Eh w' r k) (hb : Below w.heap.size w w') (hr : r<w.heap.size) : Eh w r k:=by
 rcases h with h | ⟨u,h1,h2⟩
 ·exact .inl h
 ·exact .inr ⟨u,by rw [← h1]; exact (hb.cell (p:=⟨r,0,none⟩) hr).symm,h2⟩
theorem TWorld.quiet (h : TWorld B w x d g t b r F S lp m) (hb : Below w.heap.size w w') : TWorld B w' x d g t b r F S lp m:=by
 obtain ⟨bad,most,last,h1,h2⟩:=h.world
 have hr:=h.ref.lt
 refine ⟨⟨bad,most,last,(Dt hb).keep (show w.heap[x]? = some _ from h1) (fun h=>h),h2⟩,h.calm.quiet (Dt hb),h.ref.keepB hb,fun k hk=>?_,fun k hk=>h.other k (hk.back hb hr),h.low⟩
 have:=h.apart k (hk.imp id (fun q=>q.back hb hr))
 exact ⟨Nat.lt_of_lt_of_le this.1 hb.size,this.2⟩
theorem laylaw_calm (h : TWorld B w x d g t b r F S lp m) (hv : PsT w v ps) (hpl : ps.length≤140737488355328) (hvo : ∀ k,v.ownBlock=some k→¬ (F k∨k=g∨k=t)∧k≠x) (hB0 : 0<B) (hT : Bi w) (hm : m+6000000≤Dx) :
  Calls Tryz.prog 21 #[.pointer (some ⟨x,0,none⟩),v] w fun e w'=>∃ ok,e = .returned (.tuple #[.int .i64 (Bg lp ps), .bool ok])∧(∃ bad most last,Dr w' x d t r (.slice none 0 0) false bad most last∧0≤most∧most≤4611686018427387904) ∧
   ∃ F' b' S',Bo B w' F' d g t b' D3 S' (Ck lp ps) (m+2200000) Dx∧(∀ k,F' k→F k∨w.heap.size≤k)∧Chg (fun k=>F k∨k=g∨k=t∨k=x) w w':=by
 obtain ⟨bad,most,last,hW,hmo⟩:=h.world
 obtain ⟨L,sure,gs,h1,h2,h3,h4,h5,h6⟩:=h.calm
 have hmuch : Dx=67108864:=rfl
 obtain ⟨p1,p2,⟨gs',p3⟩,p4,p5,p6,p7,p8⟩:=Mt (ps:=ps) (k:=6000000) h2 h1.log.1.ok Hi h1.tab.rise h1.each h1.fit h3 (by omega) h6 (fun q1 q2=>by have:=Eg q1; have:=most_le ps; have:=El q2; omega)
 have hwh : 0≤L.wh:=by
  obtain ⟨⟨-,tail,-,q,-⟩,-⟩:=h2
  omega
 have hn : (Bh S L sure lp ps).1.n≤(Bh S L sure lp ps).1.bulk:=by unfold Dk.bulk; omega
 refine (laylaw_any hW h1 h.ref hv hpl (fun k hk=>?_) (fun k hk=>?_) hmo (by omega) hB0 hT (by omega) ⟨hwh,by omega⟩).mono ?_
 ·rcases hk with hk | hk | hk | hk
  ·exact (h.apart k (.inl hk)).2
  ·exact (h.apart k (.inr (.inl hk))).2
  ·exact (h.apart k (.inr (.inr hk))).2
  ·exact (hvo k hk).1
 ·rcases hk with hk | hk | hk
  ·exact h.other k (.inl hk)
  ·exact h.other k (.inr hk)
  ·exact (hvo k hk).2
 ·rintro e w' ⟨most',last',rfl,k1,k2,F',b',k3,k4,k5,k6⟩
  rw [p2] at k3
  exact ⟨_,by rw [p1],⟨bad,most',last',k1,k2⟩,F',b',_,⟨_,_,gs',k3,p3,p4,by omega,p6.trans h5,p7⟩,k4,k6⟩
end
end Go.Proofs.YtblniomnhpedjaaGreatDoor
namespace Go.Proofs.YtblniomnhpedjaaGreatDoor
open Go.RowKit
section
variable {B : Nat} {w2 w3 w4 : World} {F F' : Nat→Prop} {x d g t b b' r r' : Nat} {S S' : Dk} {lp lp' : List Af} {m m' : Nat}
theorem TWorld.next (h : TWorld B w2 x d g t b r F S lp m) (hb : Below w2.heap.size w2 w3) (hR : RTab w3 r' lp') (hrr : r'=r∨w2.heap.size≤r')
  (hown : ∀ u,w3.cell? ⟨r',0,none⟩=some u→w2.cell? ⟨r,0,none⟩=some u ∨ ∀ q,u.ownBlock=some q→w2.heap.size≤q∧q<w3.heap.size)
  (hW : ∃ bad most last,Dr w4 x d t r (.slice none 0 0) false bad most last∧0≤most∧most≤4611686018427387904) (hC : Bo B w4 F' d g t b' D3 S' lp' m' Dx)
  (hF : ∀ k,F' k→F k∨w3.heap.size≤k) (hc : Chg (fun k=>F k∨k=g∨k=t∨k=x) w3 w4) :
  TWorld B (w4.setCell ⟨x,2,none⟩ (.pointer (some ⟨r',0,none⟩))) x d g t b' r' F' S' lp' m':=by
 obtain ⟨bad,most,last,h1,h2⟩:=hW
 have hlow:=h.calm.low
 have hz:=hb.size
 have hz4:=hc.size
 have hxs:=(h.apart x (.inl rfl)).1
 have hXlt : ∀ k,(F k∨k=g∨k=t)→k<w2.heap.size:=fun k hk=>by
  rcases hk with hk | rfl | rfl
  ·exact (hlow.1 k hk).2
  ·exact hlow.2.1.2
  ·exact hlow.2.2.1.2
 -- r' and its row lie apart
 have hr : ∀ k,Eh w3 r' k→k<w3.heap.size∧¬ (F k∨k=g∨k=t)∧k≠x:=by
  intro k hk
  rcases hk with rfl | ⟨u,hu,hk⟩
  ·rcases hrr with rfl | q
   ·exact ⟨hR.lt,(h.apart k (.inr (.inl rfl))).2,h.other k (.inl rfl)⟩
   ·exact ⟨hR.lt,fun e=>by have:=hXlt k e; omega,by omega⟩
  ·rcases hown u hu with e | e
   ·have ha:=h.apart k (.inr (.inr ⟨u,e,hk⟩))
    exact ⟨by omega,ha.2,h.other k (.inr ⟨u,e,hk⟩)⟩
   ·have:=e k hk
    exact ⟨this.2,fun e=>by have:=hXlt k e; omega,by omega⟩
 have hX : ∀ k,Eh w3 r' k→¬ (F k∨k=g∨k=t∨k=x):=fun k hk e=>by
  have:=hr k hk
  rcases e with e | e | e | e
  ·exact this.2.1 (.inl e)
  ·exact this.2.1 (.inr (.inl e))
  ·exact this.2.1 (.inr (.inr e))
  ·exact this.2.2 e
 have hR4:=hR.keepX hc (hX r' (.inl rfl)) (fun u hu q hq=>hX q (.inr ⟨u,hu,hq⟩))
 have k5 : Chg (· = x) w4 (w4.setCell ⟨x,2,none⟩ (.pointer (some ⟨r',0,none⟩))):=(Chg.refl (· = x) w4).setCell (p:=⟨x,2,none⟩) (.inl rfl) _
 have hcell : w4.cell? ⟨r',0,none⟩=w3.cell? ⟨r',0,none⟩:=World.cell?_of_block (w:=w3) (a:=⟨r',0,none⟩) (hc.block r' hR.lt (hX r' (.inl rfl)))
 have hcell5 : (w4.setCell ⟨x,2,none⟩ (.pointer (some ⟨r',0,none⟩))).cell? ⟨r',0,none⟩=w4.cell? ⟨r',0,none⟩:=World.cell?_of_block (w:=w4) (a:=⟨r',0,none⟩) (k5.block r' hR4.lt (hr r' (.inl rfl)).2.2)
 have hback : ∀ k,Eh (w4.setCell ⟨x,2,none⟩ (.pointer (some ⟨r',0,none⟩))) r' k→Eh w3 r' k:=fun k hk=>by
  rcases hk with hk | ⟨u,hu,hk⟩
  ·exact .inl hk
  ·exact .inr ⟨u,by rw [← hcell,← hcell5]; exact hu,hk⟩
 have hR5:=hR4.keepX k5 (hr r' (.inl rfl)).2.2 (fun u hu q hq=>(hr q (.inr ⟨u,by rw [← hcell]; exact hu,hq⟩)).2.2)
 have hxF : ¬ (F' x∨x=g∨x=t):=fun e=>by
  have:=(h.apart x (.inl rfl)).2
  rcases e with e | e
  ·rcases hF x e with e | e
   ·exact this (.inl e)
   ·omega
  ·exact this (.inr e)
 have hbx : b'≠x:=by
  obtain ⟨L,sure,gs,q1,-⟩:=hC
  exact fun e=>q1.tab.map.ne (show w4.heap[x]? = some _ from h1) e.symm
 refine ⟨⟨bad,most,last,Az (show w4.heap[x]? = some _ from h1) 2 _,h2⟩,hC.keep k5 (fun k hk e=>hxF (.inl (e ▸ hk))) (fun e=>hxF (.inr (.inr e.symm))) hbx (fun e=>hxF (.inr (.inl e.symm))),hR5,fun k hk=>?_,fun k hk=>(hr k (hback k hk)).2.2,h.low⟩
 have hs5:=k5.size
 rcases hk with rfl | hk
 ·exact ⟨by omega,hxF⟩
 ·have ha:=hr k (hback k hk)
  refine ⟨by omega,fun e=>?_⟩
  rcases e with e | e
  ·rcases hF k e with e | e
   ·exact ha.2.1 (.inl e)
   ·omega
  ·exact ha.2.1 (.inr e)
end
abbrev OpT:=Int × List Al × Int × Int × Int
def OpsT (w : World) (v : Value) (os : List OpT) : Prop:=
 ∃ ao cap,v = .slice ao os.length cap∧os.length≤cap∧cap≤maxLen∧(os ≠ []→∃ b off,ao=some ⟨b,off,none⟩∧b<w.heap.size∧∀ j (h : j<os.length),∃ pv,PsT w pv (os[j]'h).2.1 ∧
  w.cell? ⟨b,off+j * 5,none⟩=some (.int .i64 (os[j]'h).1)∧w.cell? ⟨b,off+j * 5+1,none⟩=some pv∧w.cell? ⟨b,off+j * 5+2,none⟩=some (.int .i64 (os[j]'h).2.2.1)∧w.cell? ⟨b,off+j * 5+3,none⟩=some (.int .i64 (os[j]'h).2.2.2.1)∧w.cell? ⟨b,off+j * 5+4,none⟩=some (.int .i64 (os[j]'h).2.2.2.2))
theorem OpsT.form {w : World} {v : Value} {l : List OpT} (h : OpsT w v l) : ∃ ao cap,v = .slice ao l.length cap:=by
 obtain ⟨ao,cap,hv,-⟩:=h
 exact ⟨ao,cap,hv⟩
theorem OpsT.at {w w' : World} {ao : Option Addr} {n cap : Nat} {l : List OpT} (h : OpsT w (.slice ao n cap) l) (hb : Below w.heap.size w w') {j : Nat} (hj : j<l.length) :
  ∃ b off pv,ao=some ⟨b,off,none⟩∧PsT w' pv l[j].2.1∧w'.cell? ⟨b,off+j * 5,none⟩=some (.int .i64 l[j].1)∧w'.cell? ⟨b,off+j * 5+1,none⟩=some pv∧w'.cell? ⟨b,off+j * 5+2,none⟩=some (.int .i64 l[j].2.2.1)∧w'.cell? ⟨b,off+j * 5+3,none⟩=some (.int .i64 l[j].2.2.2.1)∧w'.cell? ⟨b,off+j * 5+4,none⟩=some (.int .i64 l[j].2.2.2.2):=by
 obtain ⟨ao',cap',hv,-,-,h4⟩:=h
 injection hv with e1 e2 e3
 subst e1
 obtain ⟨b,off,ha,hlt,hc⟩:=h4 (by intro e; rw [e] at hj; simp at hj)
 obtain ⟨pv,h1,h2,h3,h5,h6,h7⟩:=hc j hj
 exact ⟨b,off,pv,ha,h1.keepB hb,(hb.cell (p:=⟨b,off+j * 5,none⟩) hlt).trans h2,(hb.cell (p:=⟨b,off+j * 5+1,none⟩) hlt).trans h3,(hb.cell (p:=⟨b,off+j * 5+2,none⟩) hlt).trans h5,(hb.cell (p:=⟨b,off+j * 5+3,none⟩) hlt).trans h6,(hb.cell (p:=⟨b,off+j * 5+4,none⟩) hlt).trans h7⟩
def FineT (os : List OpT) : Prop:=∀ o∈os,(-9223372036854775808≤o.1∧o.1≤9223372036854775807)∧(-9223372036854775808≤o.2.2.1∧o.2.2.1≤9223372036854775807)∧∀ p∈o.2.1,p.1.length≤140737488351232∧p.2.1.length≤140737488351232
end Go.Proofs.YtblniomnhpedjaaGreatDoor
