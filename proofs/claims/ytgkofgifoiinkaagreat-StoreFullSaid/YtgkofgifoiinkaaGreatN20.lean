/- A device of which the first two blocks hold roots, in plain words: what a Save leaves, where the power stays and where it goes, and what is found behind it; no condition. -/
import Derived.Test.YtgkofgifoiinkaaGreatN19
namespace Go.Proofs.YtgkofgifoiinkaaGreat
open Go.RowKit
def Qd (a b:Bytes) (r:List Bk) (on:Bool) (left:Int):Dv:=⟨⟨a,[]⟩::⟨b,[]⟩::r,on,left⟩
def Calm (r:List Bk):Prop:=flushed r=r∧∀ ps,comes r ps=r
def newA (g:Nat) (l a:Bytes):Bytes:=if g % 2=0 then sealG g l else a
def newB (g:Nat) (l b:Bytes):Bytes:=if g % 2=0 then b else sealG g l
section
variable {a b:Bytes} {r:List Bk} {left:Int} {g:Nat} {l:Bytes}
theorem qd_st (on:Bool):stAt (Qd a b r on left) 0=a∧stAt (Qd a b r on left) 1=b:=⟨rfl,rfl⟩
theorem qd_len (on:Bool):2≤(Qd a b r on left).bk.length:=by simp [Qd]
theorem wrote_qd (x:Bytes):wrote (⟨a,[]⟩::⟨b,[]⟩::r) (g % 2) x=if g % 2=0 then ⟨a,[x]⟩::⟨b,[]⟩::r else ⟨a,[]⟩::⟨b,[x]⟩::r:=by
 unfold wrote
 rcases Nat.mod_two_eq_zero_or_one g with h | h <;> simp [h]
theorem qd_save (hr:Calm r) (hg:genB g=true) (hl:l.length≤480) (hz:left≠0∧left≠1) :
  sCode (Qd a b r true left) g l=0∧sDev (Qd a b r true left) g l=Qd (newA g l a) (newB g l b) r true (spent (spent left)):=by
 obtain ⟨e1,e2⟩:=save_ok (D:=Qd a b r true left) hg rfl hz (qd_len _) hl
 refine ⟨e1,e2.trans ?_⟩
 unfold Qd newA newB
 simp only
 rw [wrote_qd]
 have h1:List.map (fun x:Bk=>(⟨x.stands,[]⟩:Bk)) r=r:=hr.1
 unfold flushed
 rcases Nat.mod_two_eq_zero_or_one g with h | h
 ·rw [if_pos h,if_pos h,if_pos h]
  simp [Bk.stands]
  exact h1
 ·rw [if_neg (by omega),if_neg (by omega),if_neg (by omega)]
  simp [Bk.stands]
  exact h1
def KeptS (D:Dv) (r:List Bk) (g:Nat) (l:Bytes):Prop:=∃ a b,D=Qd a b r true (-1)∧Last2 a b g l
theorem KeptS.load {D:Dv} (h:KeptS D r g l):loadV D=(g,l,0):=by
 obtain ⟨a,b,rfl,h⟩:=h
 exact h.load rfl (qd_len _) (qd_st _).1 (qd_st _).2
theorem Last2.again {a b:Bytes} {g:Nat} {l:Bytes} (h:Last2 a b g l):newA g l a=a∧newB g l b=b:=by
 obtain ⟨_,_,⟨hp,e,_⟩ | ⟨hp,e,_⟩⟩:=h
 ·unfold newA newB
  rw [if_pos hp,if_pos hp]
  exact ⟨e.symm,rfl⟩
 ·unfold newA newB
  rw [if_neg (by omega),if_neg (by omega)]
  exact ⟨rfl,e.symm⟩
theorem KeptS.again {D:Dv} (h:KeptS D r g l) (hr:Calm r):sCode D g l=0∧KeptS (sDev D g l) r g l:=by
 obtain ⟨a,b,rfl,h⟩:=h
 obtain ⟨e1,e2⟩:=qd_save (a:=a) (b:=b) hr h.1 h.2.1 (left := -1) ⟨by decide,by decide⟩
 rw [e2,h.again.1,h.again.2]
 exact ⟨e1,a,b,rfl,h⟩
def armed (D:Dv) (m:Int):Dv:=⟨D.bk,D.on,max m (-1)⟩
end
theorem KeptS.next {D:Dv} {r:List Bk} {g:Nat} {l x:Bytes} (h:KeptS D r g l) (hr:Calm r) (hg:genB (g+1)=true) (hx:x.length≤480) :
  sCode D (g+1) x=0∧KeptS (sDev D (g+1) x) r (g+1) x:=by
 obtain ⟨a,b,rfl,h⟩:=h
 obtain ⟨e1,e2⟩:=qd_save (a:=a) (b:=b) (left := -1) hr hg hx ⟨by decide,by decide⟩
 rw [e2]
 exact ⟨e1,_,_,rfl,h.next hg hx⟩
end Go.Proofs.YtgkofgifoiinkaaGreat
