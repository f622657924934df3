/- How a slice of writes that is handed in looks, where nothing of it is read; no condition. -/
import Derived.Test.YtgkofgifoiinkaaGreatN43
import Derived.WalkKit
import Derived.Deep.Slices
import Derived.OpenShut
namespace Go.Proofs.YtgkofgifoiinkaaGreat
open Go.RowKit
theorem cmp_zero {l m:Bytes}:(Lib.compareBytes l m == 0)=decide (l=m):=by
 have h:∀ l m:Bytes,Lib.compareBytes l m=0↔l=m:=by
  intro l
  induction l with
  | nil=>intro m; cases m <;> simp [Lib.compareBytes]
  | cons a l ih =>
   intro m
   cases m with
   | nil=>simp [Lib.compareBytes]
   | cons b m =>
    rw [Lib.compareBytes]
    by_cases h1:a < b
    ·have:a≠b:=fun e=>by subst e; exact absurd h1 (UInt8.lt_irrefl _)
     simp [h1,this]
    ·by_cases h2:b < a
     ·have:a≠b:=fun e=>by subst e; exact absurd h2 (UInt8.lt_irrefl _)
      simp [h1,h2,this]
     ·have:a=b:=UInt8.le_antisymm (by simpa using h2) (by simpa using h1)
      simp [this,ih]
 rw [Bool.eq_iff_iff]
 simp [h]
set_option maxRecDepth 100000 in
set_option maxHeartbeats 4000000 in
theorem psame_any {lv xv:Value} {ls ms:List Pr} {S:Nat→Prop} (w:World) (h:Rd kdPr w S lv ls) (hm:Rd kdPr w S xv ms) (hl:∀ p∈ls,p.1.length≤1000∧p.2.length≤1000) (hl2:∀ p∈ms,p.1.length≤1000∧p.2.length≤1000):Calls Tryz.prog 21 #[lv,xv] w fun e w'=>e = .returned (.bool (decide (ls=ms)))∧Below w.heap.size w w':=by
 obtain ⟨la,lc,rfl,_⟩:=h.shape
 obtain ⟨xa,xc,rfl,_⟩:=hm.shape
 have hle:=h.len
 have hlm:=hm.len
 by_cases hlen:ls.length=ms.length
 ·obtain ⟨n,hn⟩:∃ n,n=ls.length:=⟨_,rfl⟩
  rw [← hlen] at hm hlm ⊢
  rw [← hn] at h hm hle hlm ⊢
  have HH:=Lib.hid (anZ h (anZ hm (anZ hn (anZ hlen (anZ hl hl2)))))
  clear h hm hn hlen hl hl2
  go_enter Tryz.func21,Tryz.ntmps21
  go_wp2
  go_loopw [5] (fun i wr=>∃ r:Nat,r≤n∧i = .int .i64 (r:Int)∧ls.take r=ms.take r∧Below w.heap.size w wr) (fun i _=>n-(intOf i).toNat)
  case atStart=>exact ⟨0,Nat.zero_le _,rfl,rfl,Below.refl _ _⟩
  case round =>
   obtain ⟨r,hr,rfl,ht,hb⟩:=hrel
   obtain ⟨h,hm,hn,hlen,hl,hl2⟩:=HH.out
   by_cases hlt:r < n
   ·obtain ⟨p,hp⟩:∃ p,ls[r]? = some p:=⟨_,List.getElem?_eq_getElem (by omega)⟩
    obtain ⟨q,hq⟩:∃ q,ms[r]? = some q:=⟨_,List.getElem?_eq_getElem (by omega)⟩
    obtain ⟨g,o,cap,pa,pc,va,vc,e0,hg,k0,k1,bk,bv⟩:=(h.step (Step.of_below hb S)).par hp
    obtain ⟨g',o',cap',pa',pc',va',vc',e0',hg',k0',k1',bk',bv'⟩:=(hm.step (Step.of_below hb S)).par hq
    simp only [Value.slice.injEq] at e0 e0'
    obtain ⟨rfl, -,rfl⟩:=e0
    obtain ⟨rfl, -,rfl⟩:=e0'
    have hil:(r:Int) < (n:Int):=by omega
    have hr0:(0:Int)≤(r:Int):=by omega
    have hpl:=hl p (List.mem_of_getElem? hp)
    have hql:=hl2 q (List.mem_of_getElem? hq)
    obtain ⟨p1,hp1⟩:∃ p1,p1=p.1.length:=⟨_,rfl⟩
    obtain ⟨p2,hp2⟩:∃ p2,p2=p.2.length:=⟨_,rfl⟩
    obtain ⟨q1,hq1⟩:∃ q1,q1=q.1.length:=⟨_,rfl⟩
    obtain ⟨q2,hq2⟩:∃ q2,q2=q.2.length:=⟨_,rfl⟩
    rw [← hp1] at k0 bk
    rw [← hp2] at k1 bv
    rw [← hq1] at k0' bk'
    rw [← hq2] at k1' bv'
    have hcl:=fun {a:Addr} {u:Value} {W:World} (hW:Below wr.heap.size wr W) (hc:wr.cell? a=some u)=>(hW.cell (p:=a) (World.block_lt_of_cell? wr _ hc)).trans hc
    have HX:=Lib.hid (fun (W:World) (hW:Below wr.heap.size wr W)=>anZ (hcl hW k0) (anZ (hcl hW k1) (anZ (hcl hW k0') (hcl hW k1'))))
    have HS1:=Lib.hid (fun (W:World) (hW:Below wr.heap.size wr W)=>(same_any W (bk.1.below hW) (bk'.1.below hW) (by omega) (by omega)).mono (fun e w' hz=>show e = .returned (.bool (decide (p.1=q.1)))∧Below wr.heap.size wr w' from ⟨by rw [hz.1,cmp_zero],hW.trans (hz.2.mono hW.size)⟩))
    have HS2:=Lib.hid (fun (W:World) (hW:Below wr.heap.size wr W)=>(same_any W (bv.1.below hW) (bv'.1.below hW) (by omega) (by omega)).mono (fun e w' hz=>show e = .returned (.bool (decide (p.2=q.2)))∧Below wr.heap.size wr w' from ⟨by rw [hz.1,cmp_zero],hW.trans (hz.2.mono hW.size)⟩))
    have HB:=Lib.hid (anZ hb (anZ ht (anZ hp (anZ hq (anZ hlt hr)))))
    clear h hm hn hlen hl hl2 ht hb hp hq bk bv bk' bv' hpl hql hp1 hp2 hq1 hq2 hcl k0 k1 k0' k1' hlt hr
    go_upto_region 6 with fail
    refine region_till 99 (fun W=>Below wr.heap.size wr W) (by kernel_rfl) (below_drewN (Below.refl _ _) 1) (fun hS=>?_)
    refine tkZ (i:=0) 17 (.slice (some ⟨g,o,none⟩) n lc) rfl rfl (by kernel_rfl) (fun _ _ _ h=>h) (by rfl) (fun W hW=>?_) hS ?_
    ·obtain ⟨k0,k1,k0',k1'⟩:=HX.out W hW
     clear hW
     go_simp
    simp only [Act.put,sAZ,sBZ,sCZ]
    refine tkZ (i:=1) 18 (.int .i64 (r:Int)) rfl rfl (by kernel_rfl) (fun _ _ _ h=>h) (by rfl) (fun W hW=>?_) hS ?_
    ·obtain ⟨k0,k1,k0',k1'⟩:=HX.out W hW
     clear hW
     go_simp
    simp only [Act.put,sAZ,sBZ,sCZ]
    refine tkZ (i:=2) 19 (.pointer (some ⟨g,o+r*2,none⟩)) rfl rfl (by kernel_rfl) (fun _ _ _ h=>h) (by rfl) (fun W hW=>?_) hS ?_
    ·obtain ⟨k0,k1,k0',k1'⟩:=HX.out W hW
     clear hW
     go_simp
    simp only [Act.put,sAZ,sBZ,sCZ]
    refine tkZ (i:=3) 20 (.pointer (some ⟨g,o+r*2,none⟩)) rfl rfl (by kernel_rfl) (fun _ _ _ h=>h) (by rfl) (fun W hW=>?_) hS ?_
    ·obtain ⟨k0,k1,k0',k1'⟩:=HX.out W hW
     clear hW
     go_simp
    simp only [Act.put,sAZ,sBZ,sCZ]
    refine tkZ (i:=4) 21 (.slice pa p1 pc) rfl rfl (by kernel_rfl) (fun _ _ _ h=>h) (by rfl) (fun W hW=>?_) hS ?_
    ·obtain ⟨k0,k1,k0',k1'⟩:=HX.out W hW
     clear hW
     go_simp
    simp only [Act.put,sAZ,sBZ,sCZ]
    refine tkZ (i:=5) 22 (.slice (some ⟨g',o',none⟩) n xc) rfl rfl (by kernel_rfl) (fun _ _ _ h=>h) (by rfl) (fun W hW=>?_) hS ?_
    ·obtain ⟨k0,k1,k0',k1'⟩:=HX.out W hW
     clear hW
     go_simp
    simp only [Act.put,sAZ,sBZ,sCZ]
    refine tkZ (i:=6) 23 (.int .i64 (r:Int)) rfl rfl (by kernel_rfl) (fun _ _ _ h=>h) (by rfl) (fun W hW=>?_) hS ?_
    ·obtain ⟨k0,k1,k0',k1'⟩:=HX.out W hW
     clear hW
     go_simp
    simp only [Act.put,sAZ,sBZ,sCZ]
    refine tkZ (i:=7) 24 (.pointer (some ⟨g',o'+r*2,none⟩)) rfl rfl (by kernel_rfl) (fun _ _ _ h=>h) (by rfl) (fun W hW=>?_) hS ?_
    ·obtain ⟨k0,k1,k0',k1'⟩:=HX.out W hW
     clear hW
     go_simp
    simp only [Act.put,sAZ,sBZ,sCZ]
    refine tkZ (i:=8) 25 (.pointer (some ⟨g',o'+r*2,none⟩)) rfl rfl (by kernel_rfl) (fun _ _ _ h=>h) (by rfl) (fun W hW=>?_) hS ?_
    ·obtain ⟨k0,k1,k0',k1'⟩:=HX.out W hW
     clear hW
     go_simp
    simp only [Act.put,sAZ,sBZ,sCZ]
    refine tkZ (i:=9) 26 (.slice pa' q1 pc') rfl rfl (by kernel_rfl) (fun _ _ _ h=>h) (by rfl) (fun W hW=>?_) hS ?_
    ·obtain ⟨k0,k1,k0',k1'⟩:=HX.out W hW
     clear hW
     go_simp
    simp only [Act.put,sAZ,sBZ,sCZ]
    refine next_till 10 (by kernel_rfl) rfl (fun K hK=>?_)
    go_simp
    refine (HS1.out _ hS).mono ?_
    rintro e w3 ⟨rfl,hS3⟩
    by_cases he:p.1=q.1
    ·rw [decide_eq_true he]
     have HE:=Lib.hid he
     clear he
     go_simp
     refine hK.out _ _ (fun _=>hS3) ?_
     clear hK K hS
     have hS:=hS3
     refine tkZ (i:=11) 28 (.bool false) rfl rfl (by kernel_rfl) (fun _ _ _ h=>h) (by rfl) (fun W hW=>?_) hS ?_
     ·obtain ⟨k0,k1,k0',k1'⟩:=HX.out W hW
      clear hW
      go_simp
     simp only [Act.put,sAZ,sBZ,sCZ]
     refine tkZ (i:=12) 29 (.bool false) rfl rfl (by kernel_rfl) (fun _ _ _ h=>h) (by rfl) (fun W hW=>?_) hS ?_
     ·obtain ⟨k0,k1,k0',k1'⟩:=HX.out W hW
      clear hW
      go_simp
     simp only [Act.put,sAZ,sBZ,sCZ]
     refine tkZ (i:=13) 30 (.slice (some ⟨g,o,none⟩) n lc) rfl rfl (by kernel_rfl) (fun _ _ _ h=>h) (by rfl) (fun W hW=>?_) hS ?_
     ·obtain ⟨k0,k1,k0',k1'⟩:=HX.out W hW
      clear hW
      go_simp
     simp only [Act.put,sAZ,sBZ,sCZ]
     refine tkZ (i:=14) 31 (.int .i64 (r:Int)) rfl rfl (by kernel_rfl) (fun _ _ _ h=>h) (by rfl) (fun W hW=>?_) hS ?_
     ·obtain ⟨k0,k1,k0',k1'⟩:=HX.out W hW
      clear hW
      go_simp
     simp only [Act.put,sAZ,sBZ,sCZ]
     refine tkZ (i:=15) 32 (.pointer (some ⟨g,o+r*2,none⟩)) rfl rfl (by kernel_rfl) (fun _ _ _ h=>h) (by rfl) (fun W hW=>?_) hS ?_
     ·obtain ⟨k0,k1,k0',k1'⟩:=HX.out W hW
      clear hW
      go_simp
     simp only [Act.put,sAZ,sBZ,sCZ]
     refine tkZ (i:=16) 33 (.pointer (some ⟨g,o+r*2+1,none⟩)) rfl rfl (by kernel_rfl) (fun _ _ _ h=>h) (by rfl) (fun W hW=>?_) hS ?_
     ·obtain ⟨k0,k1,k0',k1'⟩:=HX.out W hW
      clear hW
      go_simp
     simp only [Act.put,sAZ,sBZ,sCZ]
     refine tkZ (i:=17) 34 (.slice va p2 vc) rfl rfl (by kernel_rfl) (fun _ _ _ h=>h) (by rfl) (fun W hW=>?_) hS ?_
     ·obtain ⟨k0,k1,k0',k1'⟩:=HX.out W hW
      clear hW
      go_simp
     simp only [Act.put,sAZ,sBZ,sCZ]
     refine tkZ (i:=18) 35 (.slice (some ⟨g',o',none⟩) n xc) rfl rfl (by kernel_rfl) (fun _ _ _ h=>h) (by rfl) (fun W hW=>?_) hS ?_
     ·obtain ⟨k0,k1,k0',k1'⟩:=HX.out W hW
      clear hW
      go_simp
     simp only [Act.put,sAZ,sBZ,sCZ]
     refine tkZ (i:=19) 36 (.int .i64 (r:Int)) rfl rfl (by kernel_rfl) (fun _ _ _ h=>h) (by rfl) (fun W hW=>?_) hS ?_
     ·obtain ⟨k0,k1,k0',k1'⟩:=HX.out W hW
      clear hW
      go_simp
     simp only [Act.put,sAZ,sBZ,sCZ]
     refine tkZ (i:=20) 37 (.pointer (some ⟨g',o'+r*2,none⟩)) rfl rfl (by kernel_rfl) (fun _ _ _ h=>h) (by rfl) (fun W hW=>?_) hS ?_
     ·obtain ⟨k0,k1,k0',k1'⟩:=HX.out W hW
      clear hW
      go_simp
     simp only [Act.put,sAZ,sBZ,sCZ]
     refine tkZ (i:=21) 38 (.pointer (some ⟨g',o'+r*2+1,none⟩)) rfl rfl (by kernel_rfl) (fun _ _ _ h=>h) (by rfl) (fun W hW=>?_) hS ?_
     ·obtain ⟨k0,k1,k0',k1'⟩:=HX.out W hW
      clear hW
      go_simp
     simp only [Act.put,sAZ,sBZ,sCZ]
     refine tkZ (i:=22) 39 (.slice va' q2 vc') rfl rfl (by kernel_rfl) (fun _ _ _ h=>h) (by rfl) (fun W hW=>?_) hS ?_
     ·obtain ⟨k0,k1,k0',k1'⟩:=HX.out W hW
      clear hW
      go_simp
     simp only [Act.put,sAZ,sBZ,sCZ]
     refine next_till 23 (by kernel_rfl) rfl (fun K hK=>?_)
     go_simp
     refine (HS2.out _ hS).mono ?_
     rintro e w4 ⟨rfl,hS4⟩
     by_cases hf:p.2=q.2
     ·rw [decide_eq_true hf]
      have hpq:p=q:=Prod.ext HE.out hf
      have HG:=Lib.hid (show ls.take (r+1)=ms.take (r+1) by rw [List.take_add_one,List.take_add_one,HB.out.2.2.1,HB.out.2.2.2.1,HB.out.2.1,hpq])
      clear hf hpq
      go_simp
      refine hK.out _ _ (fun _=>hS4) ?_
      clear hK K hS
      have hS:=hS4
      refine tkZ (i:=24) 41 (.bool false) rfl rfl (by kernel_rfl) (fun _ _ _ h=>h) (by rfl) (fun W hW=>?_) hS ?_
      ·obtain ⟨k0,k1,k0',k1'⟩:=HX.out W hW
       clear hW
       go_simp
      simp only [Act.put,sAZ,sBZ,sCZ]
      refine tkZ (i:=25) 42 (.bool false) rfl rfl (by kernel_rfl) (fun _ _ _ h=>h) (by rfl) (fun W hW=>?_) hS ?_
      ·obtain ⟨k0,k1,k0',k1'⟩:=HX.out W hW
       clear hW
       go_simp
      simp only [Act.put,sAZ,sBZ,sCZ]
      refine done_till (by kernel_rfl) ?_ _
      have HZ:=Lib.hid (HB.out.1.trans (hS.mono HB.out.1.size))
      clear hS hS3 hS4
      go_wp2
      go_roundw
      case rel=>exact ⟨r+1,HB.out.2.2.2.2.1,by go_num,HG.out,HZ.out⟩
      case measure =>
       have:=HB.out.2.2.2.2.1
       simp [intOf]; omega
     ·rw [decide_eq_false hf]
      have HG:=Lib.hid (show decide (ls=ms)=false from decide_eq_false fun e=>by
       have h1:=HB.out.2.2.1
       rw [e,HB.out.2.2.2.1] at h1
       exact hf (by rw [Option.some.inj h1]))
      clear hf
      go_simp
      refine hK.out _ _ (fun _=>hS4) ?_
      clear hK K hS
      have hS:=hS4
      refine tkZ (i:=24) 41 (.bool true) rfl rfl (by kernel_rfl) (fun _ _ _ h=>h) (by rfl) (fun W hW=>?_) hS ?_
      ·obtain ⟨k0,k1,k0',k1'⟩:=HX.out W hW
       clear hW
       go_simp
      simp only [Act.put,sAZ,sBZ,sCZ]
      refine tkZ (i:=25) 42 (.bool true) rfl rfl (by kernel_rfl) (fun _ _ _ h=>h) (by rfl) (fun W hW=>?_) hS ?_
      ·obtain ⟨k0,k1,k0',k1'⟩:=HX.out W hW
       clear hW
       go_simp
      simp only [Act.put,sAZ,sBZ,sCZ]
      refine done_till (by kernel_rfl) ?_ _
      have HZ:=Lib.hid (HB.out.1.trans (hS.mono HB.out.1.size))
      clear hS hS3 hS4
      go_wp2
      go_ret
      rw [HG.out]
      exact ⟨rfl,HZ.out⟩
    ·rw [decide_eq_false he]
     have HG:=Lib.hid (show decide (ls=ms)=false from decide_eq_false fun e=>by
      have h1:=HB.out.2.2.1
      rw [e,HB.out.2.2.2.1] at h1
      exact he (by rw [Option.some.inj h1]))
     clear he
     go_simp
     refine hK.out _ _ (fun _=>hS3) ?_
     clear hK K hS
     have hS:=hS3
     refine tkZ (i:=11) 28 (.bool true) rfl rfl (by kernel_rfl) (fun _ _ _ h=>h) (by rfl) (fun W hW=>?_) hS ?_
     ·obtain ⟨k0,k1,k0',k1'⟩:=HX.out W hW
      clear hW
      go_simp
     simp only [Act.put,sAZ,sBZ,sCZ]
     refine tkZ (i:=12) 29 (.bool true) rfl rfl (by kernel_rfl) (fun _ _ _ h=>h) (by rfl) (fun W hW=>?_) hS ?_
     ·obtain ⟨k0,k1,k0',k1'⟩:=HX.out W hW
      clear hW
      go_simp
     simp only [Act.put,sAZ,sBZ,sCZ]
     refine skip_till (i:=13) (some 30) rfl rfl (by kernel_rfl) (by kernel_rfl) (by kernel_rfl) (by kernel_rfl) (by decide) (fun _ _ _ h=>h) (by rfl) hS ?_
     simp only [Act.put,sAZ,sBZ,sCZ]
     refine skip_till (i:=14) (some 31) rfl rfl (by kernel_rfl) (by kernel_rfl) (by kernel_rfl) (by kernel_rfl) (by decide) (fun _ _ _ h=>h) (by rfl) hS ?_
     simp only [Act.put,sAZ,sBZ,sCZ]
     refine skip_till (i:=15) (some 32) rfl rfl (by kernel_rfl) (by kernel_rfl) (by kernel_rfl) (by kernel_rfl) (by decide) (fun _ _ _ h=>h) (by rfl) hS ?_
     simp only [Act.put,sAZ,sBZ,sCZ]
     refine skip_till (i:=16) (some 33) rfl rfl (by kernel_rfl) (by kernel_rfl) (by kernel_rfl) (by kernel_rfl) (by decide) (fun _ _ _ h=>h) (by rfl) hS ?_
     simp only [Act.put,sAZ,sBZ,sCZ]
     refine skip_till (i:=17) (some 34) rfl rfl (by kernel_rfl) (by kernel_rfl) (by kernel_rfl) (by kernel_rfl) (by decide) (fun _ _ _ h=>h) (by rfl) hS ?_
     simp only [Act.put,sAZ,sBZ,sCZ]
     refine skip_till (i:=18) (some 35) rfl rfl (by kernel_rfl) (by kernel_rfl) (by kernel_rfl) (by kernel_rfl) (by decide) (fun _ _ _ h=>h) (by rfl) hS ?_
     simp only [Act.put,sAZ,sBZ,sCZ]
     refine skip_till (i:=19) (some 36) rfl rfl (by kernel_rfl) (by kernel_rfl) (by kernel_rfl) (by kernel_rfl) (by decide) (fun _ _ _ h=>h) (by rfl) hS ?_
     simp only [Act.put,sAZ,sBZ,sCZ]
     refine skip_till (i:=20) (some 37) rfl rfl (by kernel_rfl) (by kernel_rfl) (by kernel_rfl) (by kernel_rfl) (by decide) (fun _ _ _ h=>h) (by rfl) hS ?_
     simp only [Act.put,sAZ,sBZ,sCZ]
     refine skip_till (i:=21) (some 38) rfl rfl (by kernel_rfl) (by kernel_rfl) (by kernel_rfl) (by kernel_rfl) (by decide) (fun _ _ _ h=>h) (by rfl) hS ?_
     simp only [Act.put,sAZ,sBZ,sCZ]
     refine skip_till (i:=22) (some 39) rfl rfl (by kernel_rfl) (by kernel_rfl) (by kernel_rfl) (by kernel_rfl) (by decide) (fun _ _ _ h=>h) (by rfl) hS ?_
     simp only [Act.put,sAZ,sBZ,sCZ]
     refine skip_till (i:=23) (some 40) rfl rfl (by kernel_rfl) (by kernel_rfl) (by kernel_rfl) (by kernel_rfl) (by decide) (fun _ _ _ h=>h) (by rfl) hS ?_
     simp only [Act.put,sAZ,sBZ,sCZ]
     refine skip_till (i:=24) (some 41) rfl rfl (by kernel_rfl) (by kernel_rfl) (by kernel_rfl) (by kernel_rfl) (by decide) (fun _ _ _ h=>h) (by rfl) hS ?_
     simp only [Act.put,sAZ,sBZ,sCZ]
     refine tkZ (i:=25) 42 (.bool true) rfl rfl (by kernel_rfl) (fun _ _ _ h=>h) (by rfl) (fun W hW=>?_) hS ?_
     ·obtain ⟨k0,k1,k0',k1'⟩:=HX.out W hW
      clear hW
      go_simp
     simp only [Act.put,sAZ,sBZ,sCZ]
     refine done_till (by kernel_rfl) ?_ _
     have HZ:=Lib.hid (HB.out.1.trans (hS.mono HB.out.1.size))
     clear hS hS3
     go_wp2
     go_ret
     rw [HG.out]
     exact ⟨rfl,HZ.out⟩
   ·obtain rfl:r=n:=by omega
    have hil:¬ (r:Int) < (r:Int):=by omega
    have HG:=Lib.hid (anZ hb (show decide (ls=ms)=true from decide_eq_true (by rw [List.take_of_length_le (by omega),List.take_of_length_le (by omega)] at ht; exact ht)))
    clear h hm hn hlen hl hl2 ht hb hlt hr
    go_wp2
    go_ret
    rw [HG.out.2]
    exact ⟨rfl,HG.out.1⟩
 ·have HG:=Lib.hid (show decide (ls=ms)=false from decide_eq_false fun e=>hlen (by rw [e]))
  have hni:¬ (ls.length:Int)=(ms.length:Int):=by omega
  obtain ⟨a,ha⟩:∃ a,a=ls.length:=⟨_,rfl⟩
  obtain ⟨b,hb⟩:∃ b,b=ms.length:=⟨_,rfl⟩
  rw [← ha, ← hb] at hni
  rw [← ha, ← hb]
  clear h hm hl hl2 hlen hle hlm ha hb
  go_enter Tryz.func21,Tryz.ntmps21
  go_wp2
  go_ret
  rw [HG.out]
  exact ⟨rfl,Below.refl _ _⟩
end Go.Proofs.YtgkofgifoiinkaaGreat
namespace Go.Proofs.YtgkofgifoiinkaaGreat
open Go.RowKit Go.Maps
theorem fresh_upto (k:Nat):Upto (fresh k) 0:=by
 intro i x hx
 unfold fresh at hx
 simp only at hx
 rw [List.getElem?_replicate] at hx
 split at hx
 ·cases hx
  exact Nat.le_refl _
 ·cases hx
def Writes1 (w:World) (a b:UInt8) (e:Ending) (w':World):Prop:=∃ kb kc vb vc,e = .returned (.agg #[.slice (some ⟨kb,0,none⟩) 1 kc, .slice (some ⟨vb,0,none⟩) 1 vc, .bool false])∧NewB w w' (.slice (some ⟨kb,0,none⟩) 1 kc) [a]∧NewB w w' (.slice (some ⟨vb,0,none⟩) 1 vc) [b]∧Below w.heap.size w w'
theorem w1_any (w:World) (a b:UInt8):Calls Tryz.prog 30 #[.string ⟨#[a]⟩, .string ⟨#[b]⟩] w (Writes1 w a b):=by
 refine (w_any w [a] [b] (by simp) (by simp)).mono ?_
 rintro e w4 ⟨k1,kc1,v1,vc1,rfl,b1,b2,n1,n2,hb4⟩
 exact ⟨k1,kc1,v1,vc1,rfl,⟨b1,fun q hq=>by cases hq; exact n1⟩,⟨b2,fun q hq=>by cases hq; exact n2⟩,hb4⟩
theorem NewB.from_later {w w1 w2:World} {v:Value} {l:Bytes} (h:NewB w1 w2 v l) (hb:w.heap.size≤w1.heap.size):NewB w w2 v l:=⟨h.1,fun q hq=>Nat.le_trans hb (h.2 q hq)⟩
theorem newB_lit (w:World) (c:UInt8):NewB w (w.alloc (.cells #[bv c] 5 (1,2))) (.slice (some ⟨w.heap.size,0,none⟩) 1 1) [c] :=
 ⟨bs_text w #[bv c] [c] 1 (1,2) rfl rfl (by simp),fun q hq=>by cases hq; exact Nat.le_refl _⟩
set_option maxRecDepth 100000 in
set_option maxHeartbeats 8000000 in
theorem stworks_any (w:World):Calls Tryz.prog 8 #[] w fun e w'=>e = .returned (.bool true)∧Below w.heap.size w w':=by
 have hcv:=fun (w:World) (C:Array Value) (n c:Nat)=>Lib.run_convert_bytes_const (P:=Tryz.prog) w 24 5 C n c Tryz.underlying24 Tryz.underlying5
 have hcs:=run_convert_second
 go_enter Tryz.func8,Tryz.ntmps8
 go_wp2_with fail
 refine (own_new 442 w (by omega) (by omega)).mono ?_
 rintro e w1 ⟨db,rfl,h⟩
 have hfon:(fresh 442).on=true:=rfl
 have hfl:(fresh 442).left < 0:=by decide
 have hfb:(fresh 442).bk.length=442:=by simp [fresh]
 have hfu:Upto (fresh 442) 0:=fresh_upto 442
 go_wp2_with fail
 refine (own_open_none h hfon (by omega) (fresh_loadS (by omega))).mono ?_
 rintro e w2 ⟨rfl,h2, -⟩
 clear h
 have P:=dsk_new h2 hfon hfl hfu (by omega) (by omega)
 rw [hfb] at P
 clear h2 hfon hfl hfb hfu
 go_wp2_with fail
 refine P.mono ?_
 rintro e w3 ⟨sb,D,rfl,h3,hl3,hb3⟩
 clear P
 have HL:=Lib.hid (anZ hl3 hb3)
 clear hl3 hb3
 go_wp2_with fail
 refine (w1_any w3 97 49).mono ?_
 rintro e w4 ⟨k1,kc1,v1,vc1,rfl,b1,b2,hb4⟩
 go_wp2_with fail
 refine (w1_any w4 98 50).mono ?_
 rintro e w5 ⟨k2,kc2,v2,vc2,rfl,b3,b4,hb5⟩
 have hb35:=hb4.trans (hb5.mono hb4.size)
 have R:=fun (T:Nat→Prop) (hT:∀ q,T q→q < w3.heap.size)=>two_rd (x:=⟨[97],[49],false⟩) (y:=⟨[98],[50],false⟩) hb35.size (b1.below hb5) (b2.below hb5) (b3.from_later hb4.size) (b4.from_later hb4.size) hT
 have P:=commit_two (l:=[⟨[97],[49],false⟩,⟨[98],[50],false⟩]) h3 (hb35.alloc hb35.size _) (by omega) (by omega) R (by simp) (by decide) (by rw [HL.out.2]; decide) HL.out.1
 clear R b1 b2 b3 b4 hb4 hb5 hb35 h3
 go_wp2_with fail
 refine P.mono ?_
 rintro e w6 ⟨rfl,D6,h6,hl6,hb6⟩
 have h6:Dsk w w6 sb db D6 [([97],[49]),([98],[50])] 4900 3 (fun _=>True):=h6
 have HL6:=Lib.hid (anZ hl6 (hb6.trans HL.out.2))
 clear P hl6 hb6 HL
 have P:=dsk_bytes h6
 have e12:(bytesP [([97],[49]),([98],[50])]:Nat)=12:=by decide
 rw [e12] at P
 clear e12
 go_wp2_with fail
 refine P.mono ?_
 rintro e w7 ⟨rfl,rfl⟩
 clear P
 have hlt:=below_text w6 #[.int .u8 97] (1,2)
 have hk:=(show NewB w6 (w6.alloc (.cells #[.int .u8 97] 5 (1,2))) (.slice (some ⟨w6.heap.size,0,none⟩) 1 1) [97] from newB_lit w6 97)
 go_wp2_with fail
 generalize w6.alloc (.cells #[.int .u8 97] 5 (1,2))=w7 at *
 refine (w1_any w7 97 51).mono ?_
 rintro e w8 ⟨k1,kc1,v1,vc1,rfl,b1,b2,hb8⟩
 have hb68:=hlt.trans (hb8.mono hlt.size)
 have R:=fun (T:Nat→Prop) (hT:∀ q,T q→q < w6.heap.size)=>two_rd (x:=⟨[97],[],true⟩) (y:=⟨[97],[51],false⟩) hb68.size (hk.below hb8) (NewB.nil w6 w8) (b1.from_later hlt.size) (b2.from_later hlt.size) hT
 have P:=commit_not (l:=[⟨[97],[],true⟩,⟨[97],[51],false⟩]) h6 (hb68.alloc hb68.size _) (by omega) (by omega) R (by simp) (by decide)
 generalize w6.heap.size=p6 at *
 clear R b1 b2 hb8 hb68 h6 hk hlt
 go_wp2_with fail
 refine P.mono ?_
 rintro e w9 ⟨rfl,h9⟩
 clear P
 have hlt:=below_text w9 #[.int .u8 97] (1,2)
 have hk:=(show NewB w9 (w9.alloc (.cells #[.int .u8 97] 5 (1,2))) (.slice (some ⟨w9.heap.size,0,none⟩) 1 1) [97] from newB_lit w9 97)
 go_wp2_with fail
 generalize w9.alloc (.cells #[.int .u8 97] 5 (1,2))=w10 at *
 refine (w1_any w10 99 51).mono ?_
 rintro e w11 ⟨k2,kc2,v2,vc2,rfl,b1,b2,hb8⟩
 have hb68:=hlt.trans (hb8.mono hlt.size)
 have R:=fun (T:Nat→Prop) (hT:∀ q,T q→q < w9.heap.size)=>two_rd (x:=⟨[97],[],true⟩) (y:=⟨[99],[51],false⟩) hb68.size (hk.below hb8) (NewB.nil w9 w11) (b1.from_later hlt.size) (b2.from_later hlt.size) hT
 have P:=commit_two (l:=[⟨[97],[],true⟩,⟨[99],[51],false⟩]) h9 (hb68.alloc hb68.size _) (by omega) (by omega) R (by simp) (by decide) (by rw [HL6.out.2]; decide) HL6.out.1
 generalize w9.heap.size=p9 at *
 clear R b1 b2 hb8 hb68 h9 hk hlt
 go_wp2_with fail
 refine P.mono ?_
 rintro e w12 ⟨rfl,D12,h12,hl12,hb12⟩
 have h12:Dsk w w12 sb db D12 [([98],[50]),([99],[51])] 9400 5 (fun _=>True):=h12
 have HL12:=Lib.hid (anZ hl12 (hb12.trans HL6.out.2))
 clear P hl12 hb12 HL6
 have hlt:=below_text w12 #[.int .u8 97] (1,2)
 have P:=dsk_get (h12.later hlt) (k:=[97]) (show Bs (w12.alloc (.cells #[.int .u8 97] 5 (1,2))) (.slice (some ⟨w12.heap.size,0,none⟩) 1 1) [97] from (newB_lit w12 97).1) (by unfold maxLen; decide)
 have eg:lookP [([98],[50]),([99],[51])] [97]=none:=by decide
 rw [eg] at P
 clear eg
 have h13:=h12.later hlt
 clear h12 hlt
 go_wp2_with fail
 refine P.mono ?_
 rintro e w13 ⟨gv,rfl, -,hb13⟩
 clear P
 have h14:=h13.later hb13
 clear h13 hb13
 have hlt:=below_text w13 #[.int .u8 99] (1,2)
 have P:=dsk_get (h14.later hlt) (k:=[99]) (show Bs (w13.alloc (.cells #[.int .u8 99] 5 (1,2))) (.slice (some ⟨w13.heap.size,0,none⟩) 1 1) [99] from (newB_lit w13 99).1) (by unfold maxLen; decide)
 have eg:lookP [([98],[50]),([99],[51])] [99]=some [51]:=by decide
 rw [eg] at P
 clear eg
 have h15:=h14.later hlt
 clear h14 hlt
 go_wp2_with fail
 refine P.mono ?_
 rintro e w14 ⟨cv,rfl,hbc,hb14⟩
 clear P
 have h16:=h15.later hb14
 clear h15 hb14
 obtain ⟨ca,cc,rfl,_⟩:=hbc.shape
 have k1':(convert 24 9 (.slice ca 1 cc)).run Tryz.prog w14 = .ok (.string ⟨#[51]⟩) w14:=run_string_bs bt (d:=9) Tryz.underlying9 w14 hbc
 have hon:=h16.on
 have P:=own_off h16.own
 have eo:ocode D12=0:=by unfold ocode; rw [if_neg (by rw [hon]; simp)]
 have eo2:odev D12=⟨D12.bk,false,D12.left⟩:=by unfold odev; rw [if_neg (by rw [hon]; simp)]
 rw [eo,eo2] at P
 have HD:=Lib.hid (anZ (h16.disk []) h16.upto)
 clear h16 hon eo eo2 hbc
 go_wp2_with fail
 refine P.mono ?_
 rintro e w15 ⟨rfl,h15⟩
 clear P k1'
 have P:=own_on h15 (n:=9400) HD.out.2 (by omega) (Iv.nil w)
 have en:ncode ⟨D12.bk,false,D12.left⟩=0:=rfl
 have en2:ndev ⟨D12.bk,false,D12.left⟩ []=⟨comes D12.bk [],true, -1⟩:=rfl
 rw [en,en2] at P
 clear h15 en en2
 go_wp2_with fail
 refine P.mono ?_
 rintro e w16 ⟨rfl,h16⟩
 clear P
 have P:=dsk_open h16 rfl (upto_comes 0) HD.out.1
 clear h16
 go_wp2_with fail
 refine P.mono ?_
 rintro e w17 ⟨sb2,rfl,h17⟩
 clear P
 have hl1:=below_text w17 #[.int .u8 98] (1,2)
 have hk1:=(show NewB w17 (w17.alloc (.cells #[.int .u8 98] 5 (1,2))) (.slice (some ⟨w17.heap.size,0,none⟩) 1 1) [98] from newB_lit w17 98)
 have hl2:=below_text (w17.alloc (.cells #[.int .u8 98] 5 (1,2))) #[.int .u8 99] (1,2)
 have hk2:=(show NewB (w17.alloc (.cells #[.int .u8 98] 5 (1,2))) ((w17.alloc (.cells #[.int .u8 98] 5 (1,2))).alloc (.cells #[.int .u8 99] 5 (1,2))) (.slice (some ⟨(w17.alloc (.cells #[.int .u8 98] 5 (1,2))).heap.size,0,none⟩) 1 1) [99] from newB_lit _ 99)
 have ez:(w17.alloc (.cells #[.int .u8 98] 5 (1,2))).heap.size=w17.heap.size+1:=by simp
 rw [ez] at hk2
 have hl12:=hl1.trans (hl2.mono hl1.size)
 have P:=dsk_scan (S:=fun _=>False) (h17.later hl12) (fun _ h=>h.elim) (hk1.1.below hl2) hk2.1
 have es:inSpan [98] [99] [([98],[50]),([99],[51])]=[([98],[50])]:=by decide
 rw [es] at P
 have hu:=h17.under.trans (hl12.mono h17.under.size)
 have HU:=Lib.hid hu
 clear es h17 hk1 hk2 ez hl1 hl2 hl12 hu
 go_wp2_with fail
 refine P.mono ?_
 rintro e w18 ⟨sv,rfl,hsv,hb18⟩
 clear P
 have hl1:=below_text w18 #[.int .u8 98] (1,2)
 have hk1:=(show NewB w18 (w18.alloc (.cells #[.int .u8 98] 5 (1,2))) (.slice (some ⟨w18.heap.size,0,none⟩) 1 1) [98] from newB_lit w18 98)
 have hl2:=below_text (w18.alloc (.cells #[.int .u8 98] 5 (1,2))) #[.int .u8 50] (1,2)
 have hk2:=(show NewB (w18.alloc (.cells #[.int .u8 98] 5 (1,2))) ((w18.alloc (.cells #[.int .u8 98] 5 (1,2))).alloc (.cells #[.int .u8 50] 5 (1,2))) (.slice (some ⟨(w18.alloc (.cells #[.int .u8 98] 5 (1,2))).heap.size,0,none⟩) 1 1) [50] from newB_lit _ 50)
 have ez:(w18.alloc (.cells #[.int .u8 98] 5 (1,2))).heap.size=w18.heap.size+1:=by simp
 have ez2:((w18.alloc (.cells #[.int .u8 98] 5 (1,2))).alloc (.cells #[.int .u8 50] 5 (1,2))).heap.size=w18.heap.size+2:=by simp
 rw [ez] at hk2
 have hl12:=hl1.trans (hl2.mono hl1.size)
 have hl13:Below w18.heap.size w18 (((w18.alloc (.cells #[.int .u8 98] 5 (1,2))).alloc (.cells #[.int .u8 50] 5 (1,2))).alloc (.cells #[.slice (some ⟨w18.heap.size,0,none⟩) 1 1, .slice (some ⟨w18.heap.size+1,0,none⟩) 1 1] 68)):=hl12.alloc hl12.size _
 have hlit:=rd_lit kdPr ((w18.alloc (.cells #[.int .u8 98] 5 (1,2))).alloc (.cells #[.int .u8 50] 5 (1,2))) 68 (fun _=>False) (fun _ h=>h.elim) [⟨⟨some ⟨w18.heap.size,0,none⟩,1,1⟩,⟨some ⟨w18.heap.size+1,0,none⟩,1,1⟩,([98],[50])⟩]
  #[.slice (some ⟨w18.heap.size,0,none⟩) 1 1, .slice (some ⟨w18.heap.size+1,0,none⟩) 1 1] rfl (fun t ht=>by
   rw [List.mem_singleton.1 ht]
   exact ⟨⟨hk1.1.below hl2,fun _ _ _ h=>h⟩,⟨hk2.1,fun _ _ _ h=>h⟩⟩) (by simp) (n:=1) rfl
 rw [ez2] at hlit
 have hlit:Rd kdPr (((w18.alloc (.cells #[.int .u8 98] 5 (1,2))).alloc (.cells #[.int .u8 50] 5 (1,2))).alloc (.cells #[.slice (some ⟨w18.heap.size,0,none⟩) 1 1, .slice (some ⟨w18.heap.size+1,0,none⟩) 1 1] 68)) (fun _=>False) (.slice (some ⟨w18.heap.size+2,0,none⟩) 1 1) [([98],[50])]:=hlit
 have P:=psame_any _ (hsv.step (Step.of_below hl13 _)) hlit (fun p hp=>by rw [List.mem_singleton.1 hp]; simp) (fun p hp=>by rw [List.mem_singleton.1 hp]; simp)
 rw [decide_eq_true rfl] at P
 have HU18:=Lib.hid (HU.out.trans ((hb18.trans (hl13.mono hb18.size)).mono HU.out.size))
 clear hlit hsv hb18 hl1 hl2 hl12 hl13 hk1 hk2 ez ez2 HU
 go_wp2_with fail
 refine P.mono ?_
 rintro e w19 ⟨rfl,hb19⟩
 clear P
 have r1:((roomN 441:Nat):Int)=0:=by decide
 have r2:((roomN 442:Nat):Int)=7781:=by decide
 have r3:((roomN 3000:Nat):Int)=264554:=by decide
 have R1:=room_any 441 w19 (by omega)
 have R2:=room_any 442 w19 (by omega)
 have R3:=room_any 3000 w19 (by omega)
 rw [r1] at R1
 rw [r2] at R2
 rw [r3] at R3
 clear r1 r2 r3
 go_wp2_with fail
 refine R1.mono ?_
 rintro e w20 ⟨rfl,rfl⟩
 go_wp2_with fail
 refine R2.mono ?_
 rintro e w20 ⟨rfl,rfl⟩
 go_wp2_with fail
 refine R3.mono ?_
 rintro e w20 ⟨rfl,rfl⟩
 go_wp2
 go_ret
 exact ⟨rfl,HU18.out.trans (hb19.mono HU18.out.size)⟩
end Go.Proofs.YtgkofgifoiinkaaGreat
namespace Go.Proofs.YtgkofgifoiinkaaGreat
open Go.RowKit Go.Maps
set_option maxRecDepth 100000 in
set_option maxHeartbeats 8000000 in
theorem storeNil_any (bl:Nat) (w:World) {kv lv:Value} {k:Bytes} (hk:Bs w kv k) (hl:∃ a n c,lv = .slice a n c∧n≤9223372036854775807) (hbl:bl < 65536):Calls Tryz.prog 6 #[.int .u16 (bl:Nat),kv,lv] w fun e w'=>e = .returned (.bool true)∧Below w.heap.size w w':=by
 obtain ⟨ka,kc,rfl,_⟩:=hk.shape
 obtain ⟨la,ln,lc,rfl,hln⟩:=hl
 have hkl:=hk.len
 obtain ⟨kn,hkn⟩:∃ kn,kn=k.length:=⟨_,rfl⟩
 rw [← hkn] at hk hkl ⊢
 by_cases hb1:100 < kn
 ·have hi:(100:Int) < (kn:Int):=by omega
  clear hk hkn hkl hbl
  go_enter Tryz.func6,Tryz.ntmps6
  go_wp2_with fail
  refine (stworks_any w).mono ?_
  rintro e w7 ⟨rfl,hb⟩
  go_wp2
  go_ret
  exact ⟨rfl,hb⟩
 have hi1:¬ (100:Int) < (kn:Int):=by omega
 by_cases hb2:100 < ln
 ·have hi2:(100:Int) < (ln:Int):=by omega
  clear hk hkn hkl hbl
  go_enter Tryz.func6,Tryz.ntmps6
  go_wp2_with fail
  refine (stworks_any w).mono ?_
  rintro e w7 ⟨rfl,hb⟩
  go_wp2
  go_ret
  exact ⟨rfl,hb⟩
 have hi2:¬ (100:Int) < (ln:Int):=by omega
 obtain ⟨r,hr⟩:∃ r,bl % 600=r:=⟨_,rfl⟩
 have hmod:(bl:Int).tmod 600=(r:Int):=by rw [Int.tmod_eq_emod_of_nonneg (by omega)]; omega
 obtain ⟨n,hn⟩:∃ n,n=1+r:=⟨_,rfl⟩
 have hni:1+(r:Int)=(n:Int):=by omega
 have hr0:(0:Int)≤(r:Int):=by omega
 have hr1:(r:Int)≤599:=by omega
 have hb0:(0:Int)≤(bl:Int):=by omega
 have hbb:(bl:Int)≤65535:=by omega
 have HN:=Lib.hid (anZ hr hn)
 clear hk hkn hkl hbl hb1 hb2 hr hn hln
 go_enter Tryz.func6,Tryz.ntmps6
 go_wp2_with fail
 refine (own_new n w (by have:=HN.out; omega) (by have:=HN.out; omega)).mono ?_
 rintro e w1 ⟨db,rfl,h1⟩
 go_wp2_with fail
 refine (sget_nil _ w1).mono ?_
 rintro e w2 ⟨rfl,rfl⟩
 go_wp2_with fail
 refine (sscan_nil _ _ w1).mono ?_
 rintro e w2 ⟨rfl,rfl⟩
 go_wp2_with fail
 refine (stnew_nil w1).mono ?_
 rintro e w2 ⟨rfl,hb2⟩
 have h2:=h1.later hb2
 clear h1 hb2
 go_wp2_with fail
 refine (stopen_nil w2).mono ?_
 rintro e w3 ⟨rfl,hb3⟩
 have h3:=h2.later hb3
 clear h2 hb3
 go_wp2_with fail
 refine (scommit_nil _ ⟨_,_,_,rfl⟩ w3).mono ?_
 rintro e w4 ⟨rfl,hb4⟩
 have h4:=h3.later hb4
 clear h3 hb4
 go_wp2_with fail
 refine (scheck_nil w4).mono ?_
 rintro e w5 ⟨rfl,rfl⟩
 go_wp2_with fail
 refine (sbytes_nil w4).mono ?_
 rintro e w5 ⟨rfl,rfl⟩
 have hnm:n≤4096:=by have:=HN.out; omega
 have R1:=room_any n w4 hnm
 have R2:=rroom_any n w4 hnm
 obtain ⟨rm,hrm⟩:∃ rm,roomN n=rm:=⟨_,rfl⟩
 rw [hrm] at R1 R2
 have HR:=Lib.hid (anZ hrm hnm)
 clear hrm hnm
 go_wp2_with fail
 refine R1.mono ?_
 rintro e w5 ⟨rfl,rfl⟩
 go_wp2_with fail
 refine R2.mono ?_
 rintro e w5 ⟨rfl,rfl⟩
 have hfon:(fresh n).on=true:=rfl
 have hfb:(fresh n).bk.length=n:=by simp [fresh]
 have eo:ocode (fresh n)=0:=rfl
 have eo2:(odev (fresh n)).on=false:=rfl
 by_cases hz:rm=0
 ·subst hz
  have P:=own_open_small h4 hfon (by rw [hfb]; exact HR.out.1)
  clear h4 R1
  go_wp2_with fail
  refine R2.mono ?_
  rintro e w5 ⟨rfl,rfl⟩
  go_wp2_with fail
  refine P.mono ?_
  rintro e w5 ⟨rfl,h5, -⟩
  clear P R2
  have P:=own_off h5
  rw [eo] at P
  clear h5
  go_wp2_with fail
  refine P.mono ?_
  rintro e w6 ⟨rfl,h6⟩
  clear P
  go_wp2_with fail
  refine (own_open_off h6 eo2).mono ?_
  rintro e w7 ⟨rfl,h7, -⟩
  clear h6
  go_wp2_with fail
  refine (own_new_off h7 eo2).mono ?_
  rintro e w8 ⟨rfl,h8, -⟩
  clear h7
  go_wp2_with fail
  refine (stworks_any w8).mono ?_
  rintro e w9 ⟨rfl,hb⟩
  go_wp2
  go_ret
  exact ⟨rfl,h8.under.trans (hb.mono h8.under.size)⟩
 ·have hz':¬ (rm:Int)=0:=by omega
  have hn4:442≤n:=by
   have:=mt (roomN_zero (k:=n)).2 (by rw [HR.out.1]; exact hz)
   omega
  have P:=own_open_none h4 hfon (by rw [hfb]; exact hn4) (fresh_loadS (by omega))
  clear h4 R1
  go_wp2_with fail
  refine R2.mono ?_
  rintro e w5 ⟨rfl,rfl⟩
  go_wp2_with fail
  refine P.mono ?_
  rintro e w5 ⟨rfl,h5, -⟩
  clear P R2
  have P:=own_off h5
  rw [eo] at P
  clear h5
  go_wp2_with fail
  refine P.mono ?_
  rintro e w6 ⟨rfl,h6⟩
  clear P
  go_wp2_with fail
  refine (own_open_off h6 eo2).mono ?_
  rintro e w7 ⟨rfl,h7, -⟩
  clear h6
  go_wp2_with fail
  refine (own_new_off h7 eo2).mono ?_
  rintro e w8 ⟨rfl,h8, -⟩
  clear h7
  go_wp2_with fail
  refine (stworks_any w8).mono ?_
  rintro e w9 ⟨rfl,hb⟩
  go_wp2
  go_ret
  exact ⟨rfl,h8.under.trans (hb.mono h8.under.size)⟩
end Go.Proofs.YtgkofgifoiinkaaGreat
namespace Go.Proofs.YtgkofgifoiinkaaGreat
open Go.RowKit Go.Maps Go.ChangeShapes Go.WideShapes
abbrev Sp:=Unit
def Stw (_:World) (v:Value) (_:List Sp):Prop:=∃ a n c,v = .slice a n c∧n≤9223372036854775807
section
variable {H:Type} {enc:TypeId × Value→H}
theorem stw_of_trod {W:World} {n:Nat} {v:Value} {x:DataW H × List MemPlace} (h:DataW.trod enc Tryz.prog W 0 (fun _=>true) true n 39 [v]=some x):∃ ls,Stw W v ls:=by
 rcases Deep.open_slice Tryz.underlying39 h with ⟨hcs,_⟩ | ⟨a,len,cap,m,k,D,Pl,hcs,_,hl,hm,_,_,_⟩
 ·simp at hcs
  subst hcs
  exact ⟨[],_,_,_,rfl,Nat.zero_le _⟩
 ·simp at hcs
  subst hcs
  refine ⟨[],_,_,_,rfl,?_⟩
  unfold maxLen at hm
  omega
end
end Go.Proofs.YtgkofgifoiinkaaGreat
