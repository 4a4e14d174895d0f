/-
  Texts joined: TParts1, TFullP, TTold.
-/
import Derived.Test.YtblniomnhpedjaaGreatDoorF37TPutsL
import Derived.Test.YtblniomnhpedjaaGreatDoorF40TBegun
import Derived.Test.YtblniomnhpedjaaGreatDoorF44TRCommit
import Derived.Test.YtblniomnhpedjaaGreatDoorF34TLog
namespace Go.Proofs.YtblniomnhpedjaaGreatDoor
open Go.RowKit
theorem doneA_app (l : List Af) (a b : List Al) : Ak l (a++b)=Ak (Ak l a) b:=by
 unfold Ak
 rw [List.foldl_append]
end Go.Proofs.YtblniomnhpedjaaGreatDoor
namespace Go.Proofs.YtblniomnhpedjaaGreatDoor
open Go.RowKit
def valD (l : Bs) : Nat:=l.foldl (fun a c=>10 * a+(c.toNat - 48)) 0
theorem valD_snoc (l : Bs) (c : UInt8) : valD (l ++ [c])=10 * valD l+(c.toNat - 48):=by
 unfold valD
 rw [List.foldl_append]
 rfl
theorem valD_dgs (n : Nat) : valD (dgs n)=n:=by
 induction n using Nat.strongRecOn with
 | ind n ih=>
  by_cases h : n=0
  ·rw [h,Gw]
   rfl
  ·rw [Gg h,valD_snoc,ih (n / 10) (by omega),chT_nat (by omega)]
   omega
theorem valD_dgT (n : Nat) : valD (dgT n)=n:=by
 unfold dgT
 rw [valD_snoc,valD_dgs,chT_nat (by omega)]
 omega
theorem dgs_exact : ∀ (k n : Nat),10 ^ k≤n→n<10 ^ (k+1)→(dgs n).length=k+1
 | 0,n,h1,h2=>by
  have h0 : n≠0:=by omega
  rw [Gg h0,List.length_append,show n / 10=0 by omega,Gw]
  rfl
 | k+1,n,h1,h2=>by
  have hp : 0<10 ^ k:=Nat.pow_pos (by decide)
  have e1 : 10 ^ (k+1)=10 * 10 ^ k:=by rw [Nat.pow_succ,Nat.mul_comm]
  have e2 : 10 ^ (k+1+1)=10 * 10 ^ (k+1):=by rw [Nat.pow_succ,Nat.mul_comm]
  have h0 : n≠0:=by omega
  rw [Gg h0,List.length_append,dgs_exact k (n / 10) (by omega) (by omega)]
  rfl
theorem dgT_five {n : Nat} (h1 : 10000≤n) (h2 : n≤99999) : (dgT n).length=5:=by
 unfold dgT
 rw [List.length_append,dgs_exact 3 (n / 10) (by omega) (by omega)]
 rfl
def Cb (nm : Bs) (i : Nat) : Bs:=nm++dgT (10000+i)
theorem keyN_inj {nm : Bs} {i j : Nat} (h : Cb nm i=Cb nm j) : i=j:=by
 have h1:=List.append_cancel_left h
 have h2 : valD (dgT (10000+i))=valD (dgT (10000+j)):=by rw [h1]
 rw [valD_dgT,valD_dgT] at h2
 omega
theorem Gy (nm : Bs) {i : Nat} (h : i≤80000) : (Cb nm i).length=nm.length+5:=by
 unfold Cb
 rw [List.length_append,dgT_five (by omega) (by omega)]
def Bf (nm vl : Bs) (j n : Nat) : List Al:=(List.range n).map fun s=>(Cb nm (j+s),(vl,false))
def B2 (nm vl : Bs) (j n : Nat) : List Af:=(List.range n).map fun s=>(Cb nm (j+s),vl)
theorem J9 (nm vl : Bs) (j n : Nat) : Bf nm vl j (n+1)=Bf nm vl j n ++ [(Cb nm (j+n),(vl,false))]:=by
 unfold Bf
 rw [List.range_succ,List.map_append]
 rfl
theorem My (nm vl : Bs) (j n : Nat) : B2 nm vl j (n+1)=B2 nm vl j n ++ [(Cb nm (j+n),vl)]:=by
 unfold B2
 rw [List.range_succ,List.map_append]
 rfl
theorem Kr (nm vl : Bs) (j n : Nat) : (Bf nm vl j n).length=n:=by simp [Bf]
theorem Im (nm vl : Bs) (j n : Nat) : (B2 nm vl j n).length=n:=by simp [B2]
theorem weight_one (x : Af) : Ag [x]=16+x.1.length+x.2.length:=by
 rw [Ew]
 have : Ag ([] : List Af)=0:=rfl
 omega
theorem Id (nm vl : Bs) (j : Nat) : ∀ (n : Nat),j+n≤80000→Ag (B2 nm vl j n)=n * (21+nm.length+vl.length)
 | 0,_=>by simp [B2,Ag]
 | n+1,h=>by
  rw [My,Dv,Id nm vl j n (by omega),weight_one]
  dsimp only
  rw [Gy nm (by omega),Nat.succ_mul]
  omega
theorem L6 (nm vl : Bs) (j : Nat) : ∀ (n : Nat),j+n≤80000→Br (Bf nm vl j n)=n * (5+nm.length+vl.length)
 | 0,_=>by simp [Bf,Br]
 | n+1,h=>by
  rw [J9,Nc,L6 nm vl j n (by omega),Nat.succ_mul]
  have : Br [(Cb nm (j+n),(vl,false))]=(Cb nm (j+n)).length+vl.length:=by simp [Br]
  rw [this,Gy nm (by omega)]
  omega
theorem done_new {l : List Af} (hr : Bq l) (k v : Bs) (h : ∀ x∈l,x.1≠k) : (B9 l (k,(v,false))).length=l.length+1∧Ag (B9 l (k,(v,false)))=Ag l+(16+k.length+v.length)∧∀ x∈B9 l (k,(v,false)),x∈l∨x.1=k:=by
 obtain ⟨a,b,-,-,hl,e⟩:=Kd hr (k,(v,false))
 have hab : l=a++b:=by
  rcases hl with hl | ⟨v0,hl⟩
  ·exact hl
  ·exact absurd rfl (h (k,v0) (by rw [hl]; simp))
 have e' : B9 l (k,(v,false))=a++((k,v) :: b):=e
 rw [e',hab]
 refine ⟨by simp; omega,?_,fun x hx=>?_⟩
 ·rw [Dv,Dv,Ew]
  dsimp only
  omega
 ·rcases List.mem_append.1 hx with hx | hx
  ·exact .inl (List.mem_append.2 (.inl hx))
  ·rcases List.mem_cons.1 hx with hx | hx
   ·exact .inr (by rw [hx])
   ·exact .inl (List.mem_append.2 (.inr hx))
theorem J1 {l : List Af} (hr : Bq l) (nm vl : Bs) (j : Nat) (h : ∀ x∈l,∃ s,s<j∧x.1=Cb nm s) : ∀ (n : Nat),j+n≤80000 →
  (Ak l (Bf nm vl j n)).length=l.length+n∧Ag (Ak l (Bf nm vl j n))=Ag l+n * (21+nm.length+vl.length)∧∀ x∈Ak l (Bf nm vl j n),∃ s,s<j+n∧x.1=Cb nm s
 | 0,_=>by
  refine ⟨by simp [Bf,Ak],by simp [Bf,Ak],fun x hx=>?_⟩
  have hx' : x∈l:=by simpa [Bf,Ak] using hx
  exact h x hx'
 | n+1,hn=>by
  obtain ⟨h1,h2,h3⟩:=J1 hr nm vl j h n (by omega)
  rw [J9,doneA_app]
  have e : Ak (Ak l (Bf nm vl j n)) [(Cb nm (j+n),(vl,false))]=B9 (Ak l (Bf nm vl j n)) (Cb nm (j+n),(vl,false)):=rfl
  rw [e]
  obtain ⟨g1,g2,g3⟩:=done_new (Ka hr (Bf nm vl j n)) (Cb nm (j+n)) vl (fun x hx e=>by
   obtain ⟨s,hs,hx⟩:=h3 x hx
   have:=keyN_inj (hx.symm.trans e)
   omega)
  refine ⟨by omega,?_,fun x hx=>?_⟩
  ·rw [g2,h2,Gy nm (by omega),Nat.succ_mul]
   omega
  ·rcases g3 x hx with hx | hx
   ·obtain ⟨s,hs,e⟩:=h3 x hx
    exact ⟨s,by omega,e⟩
   ·exact ⟨j+n,by omega,hx⟩
end Go.Proofs.YtblniomnhpedjaaGreatDoor
namespace Go.Proofs.YtblniomnhpedjaaGreatDoor
open Go.RowKit
section
variable {B : Nat} {w : World} {F : Nat→Prop} {d r : Nat} {S : Dk} {y : List (List Bs) × Nat × Nat} {l l' : List Af}
end
end Go.Proofs.YtblniomnhpedjaaGreatDoor
