/- What Commit makes of a store that lives, in plain words and as chains; condition: its numbers are within their bounds. -/
import Derived.Test.YtgkofgifoiinkaaGreatN38
import Derived.Test.YtgkofgifoiinkaaGreatN02
import Derived.Test.YtgkofgifoiinkaaGreatN05
import Derived.Test.YtgkofgifoiinkaaGreatN35
import Derived.Test.YtgkofgifoiinkaaGreatN30
import Derived.Test.YtgkofgifoiinkaaGreatN34
import Derived.Test.YtgkofgifoiinkaaGreatN32
import Derived.Test.YtgkofgifoiinkaaGreatN24
namespace Go.Proofs.YtgkofgifoiinkaaGreat
open Go.RowKit Go.Maps
set_option maxRecDepth 100000 in
set_option maxHeartbeats 4000000 in
theorem recorded_any {w:World} {S:Nat→Prop} {v:Value} {l:List Wr} (h:Bsf w S v (recL l)) (hS:∀ q,S q→q < w.heap.size) (hc:ComOk l) (hn:l.length≤1000000) :
  Calls Tryz.prog 74 #[v] w fun e w'=>∃ lv,e = .returned (.tuple #[lv, .bool true])∧Rd kdWr w' S lv l∧Below w.heap.size w w':=by
 obtain ⟨va,vc,rfl,_⟩:=h.1.shape
 obtain ⟨n,hnn⟩:∃ n,n=l.length:=⟨_,rfl⟩
 obtain ⟨vn,hvn⟩:∃ vn,vn=(recL l).length:=⟨_,rfl⟩
 rw [← hnn] at hn
 rw [← hvn] at h ⊢
 have HH:=Lib.hid (anZ (OutK.start kdWr 61 hS) (anZ h (anZ hnn (anZ hc hS))))
 clear h hnn hvn hc hS
 go_enter Tryz.func74,Tryz.ntmps74
 go_wp2
 go_loopw [0,2,3] (fun b lv is wr=>∃ (r:Nat) (Sx:Nat→Prop),r≤n∧(∃ bb,is = .bool bb)∧Bsf wr Sx b (recL (l.drop r))∧OutK kdWr 61 w S wr lv (l.take r) Sx) (fun b _ _ _=>match b with | .slice _ m _=>m | _=>0)
 case atStart=>exact ⟨0,S,Nat.zero_le _,⟨_,rfl⟩,by rw [List.drop_zero]; exact HH.out.2.1,HH.out.1⟩
 case round =>
  obtain ⟨r,Sx,hr,⟨bb,rfl⟩,hbs,hO⟩:=hrel
  obtain ⟨-, -,hnn,hc,hS⟩:=HH.out
  obtain ⟨ba,bc,rfl,_⟩:=hbs.1.shape
  obtain ⟨bn,hbn⟩:∃ bn,bn=(recL (l.drop r)).length:=⟨_,rfl⟩
  rw [← hbn] at hbs ⊢
  obtain ⟨oa,oc,rfl,_⟩:=hO.ro.shape
  obtain ⟨on,hon⟩:∃ on,on=(l.take r).length:=⟨_,rfl⟩
  rw [← hon] at hO ⊢
  by_cases hlt:r < n
  ·obtain ⟨x,hx⟩:∃ x,l[r]? = some x:=⟨_,List.getElem?_eq_getElem (by omega)⟩
   have hok:=hc.1 x (List.mem_of_getElem? hx)
   have hdr:l.drop r=x::l.drop (r+1):=by
    obtain ⟨hl,rfl⟩:=List.getElem?_eq_some_iff.1 hx
    exact List.drop_eq_getElem_cons hl
   have hsn:l.take (r+1)=l.take r++[x]:=by rw [List.take_add_one,hx]; rfl
   obtain ⟨R,hR⟩:∃ R,R=recL (l.drop (r+1)):=⟨_,rfl⟩
   have henc:recL (l.drop r)=UInt8.ofNat x.key.length::(x.key++((if x.gone=true then [129] else UInt8.ofNat x.val.length::x.val)++R)):=by rw [hdr,recL_cons,hR]; unfold encW; simp
   have hlen:=(encW_length hok).1
   have hb0:0 < (bn:Int):=by rw [hbn,hdr,recL_cons,List.length_append]; omega
   obtain ⟨wb,hwb⟩:∃ wb,wb=wr.alloc (.cells #[.slice none 0 0, .slice none 0 0, .bool false] 61):=⟨_,rfl⟩
   have hbx:Below wr.heap.size wr wb:=by rw [hwb]; exact (Below.refl _ _).alloc (Nat.le_refl _) _
   have CB:Cel wb wr.heap.size [.slice none 0 0, .slice none 0 0, .bool false] 61:=by rw [hwb]; exact Cel.new wr _ _
   rw [henc] at hbs hbn
   have hst1:Step Sx wr wb (fun q=>Sx q∨q=wr.heap.size):=⟨Only.of_below hbx Sx,fun q hq=>hq.elim .inl fun e=>.inr (by omega)⟩
   have PC:=piece_any (hbs.step hst1) rfl (by have:=hok.1.1.2; omega)
   have HB:=Lib.hid (anZ hO (anZ hbx (anZ CB (anZ hsn (anZ hok (anZ hR (anZ hnn (anZ hS (anZ hbn (anZ hon hst1))))))))))
   have HW:=Lib.hid hwb
   clear hO hbx CB hsn hok hR hbs hnn hc hS hdr henc hlen hx hbn hon hwb hst1
   go_upto_region 3 with fail
   rw [← HW.out]
   clear HW
   go_wp2_with fail
   refine PC.mono ?_
   rintro e w2 ⟨v1,v2,rfl,h1,h2,m,rfl⟩
   clear PC
   have CB2:Cel (wb.drewN m) wr.heap.size [.slice none 0 0, .slice none 0 0, .bool false] 61:=HB.out.2.2.1
   have f0:=CB2.frozen 0
   have c0:(wb.drewN m).cell? ⟨wr.heap.size,0,none⟩=some (.slice none 0 0):=CB2.cell 0
   obtain ⟨a1,c1,rfl,_⟩:=h1.1.shape
   obtain ⟨kn,hkn⟩:∃ kn,kn=x.key.length:=⟨_,rfl⟩
   rw [← hkn] at h1 ⊢
   have hst2:Step (fun q=>Sx q∨q=wr.heap.size) (wb.drewN m) ((wb.drewN m).setCell ⟨wr.heap.size,0,none⟩ (.slice a1 kn c1)) (fun q=>Sx q∨q=wr.heap.size):=(Step.refl _ _).set (p:=⟨wr.heap.size,0,none⟩) (.inr rfl) _
   have hst2b:Step (fun q=>Sx q∨q=wr.heap.size) wb ((wb.drewN m).setCell ⟨wr.heap.size,0,none⟩ (.slice a1 kn c1)) (fun q=>Sx q∨q=wr.heap.size):=(Step.drewN (Step.refl _ wb) m).trans hst2
   have h13:=h1.step hst2b
   have h23:=h2.step hst2b
   have CB3:Cel ((wb.drewN m).setCell ⟨wr.heap.size,0,none⟩ (.slice a1 kn c1)) wr.heap.size [.slice a1 kn c1, .slice none 0 0, .bool false] 61:=CB2.set 0 _
   obtain ⟨g2,o2,cp2,rfl,hcap2,hg2,hc2⟩:=h2.1.open (by split <;> simp)
   obtain ⟨n2,hn2⟩:∃ n2,n2=((if x.gone=true then [129] else UInt8.ofNat x.val.length::x.val)++R).length:=⟨_,rfl⟩
   rw [← hn2] at h23 hcap2 ⊢
   have hst3:Step Sx wr ((wb.drewN m).setCell ⟨wr.heap.size,0,none⟩ (.slice a1 kn c1)) (fun q=>Sx q∨q=wr.heap.size):=by
    have hs1:Step Sx wr (wb.drewN m) (fun q=>Sx q∨q=wr.heap.size):=Step.drewN HB.out.2.2.2.2.2.2.2.2.2.2 m
    exact hs1.trans hst2
   obtain ⟨w3,hw3⟩:∃ w3,w3=(wb.drewN m).setCell ⟨wr.heap.size,0,none⟩ (.slice a1 kn c1):=⟨_,rfl⟩
   rw [← hw3] at h13 h23 CB3 hst3
   have H3:=Lib.hid (anZ h13 (anZ h23 (anZ CB3 (anZ hst3 (anZ hkn (anZ hn2 hcap2))))))
   have HW3:=Lib.hid hw3
   have HB3:=Lib.hid (show Below wr.heap.size wr w3 from by rw [hw3]; exact (below_drewN HB.out.2.1 m).setCell (p:=⟨wr.heap.size,0,none⟩) (Nat.le_refl _) _)
   clear h1 h2 CB2 hst2 hst2b h13 h23 CB3 hst3 hkn hn2 hcap2 hc2 hg2 hw3
   go_upto_region 6 with fail
   rw [← HW3.out]
   clear HW3 f0 c0
   obtain ⟨h13,h23,CB3,hst3,hkn,hn2,hcap2⟩:=H3.out
   have hpos:0 < n2:=by rw [hn2]; split <;> simp
   have hp0:(0:Int) < (n2:Int):=by omega
   obtain ⟨gn,hgn⟩:∃ gn,gn=x.gone:=⟨_,rfl⟩
   rw [← hgn] at h23 hn2
   obtain ⟨g2',o2',cp2',e2,_,hg2,hc2⟩:=h23.1.open (by split <;> simp)
   simp only [Value.slice.injEq,Option.some.injEq,Addr.mk.injEq] at e2
   obtain ⟨⟨rfl,rfl, -⟩, -,rfl⟩:=e2
   have f1:=CB3.frozen 1
   have f2:=CB3.frozen 2
   have c1':w3.cell? ⟨wr.heap.size,1,none⟩=some (.slice none 0 0):=CB3.cell 1
   have c2':w3.cell? ⟨wr.heap.size,2,none⟩=some (.bool false):=CB3.cell 2
   have HG:=Lib.hid hgn
   clear hgn
   cases gn
   ·simp only [Bool.false_eq_true,if_false] at h23 hn2 hc2
    have hv128:=HB.out.2.2.2.2.1.1.2
    have hb0:w3.cell? ⟨g2,o2,none⟩=some (.int .u8 (x.val.length:Int)):=by
     have:=hc2 0 (UInt8.ofNat x.val.length) rfl
     rw [Nat.add_zero,UInt8.toNat_ofNat'] at this
     rw [this]
     congr 2
     omega
    have hne:((x.val.length:Int) == 129)=false:=by rw [beq_eq_false_iff_ne]; omega
    have PC:=piece_any (own:=x.val) (rest:=R) h23 rfl (by omega)
    clear hc2 h23 hst3 CB3 h13 hkn hn2 hcap2 hv128 hpos
    go_wp2_with fail
    refine PC.mono ?_
    rintro e w4 ⟨v3,v4,rfl,h3,h4,m4,rfl⟩
    clear PC hb0 hne
    have hx3:Below w3.heap.size w3 (w3.drewN m4):=below_drewN (Below.refl _ _) m4
    have CB4:Cel (w3.drewN m4) wr.heap.size [.slice a1 kn c1, .slice none 0 0, .bool false] 61:=H3.out.2.2.1
    have f1':(w3.drewN m4).frozen? ⟨wr.heap.size,1,none⟩=false:=f1
    have c1'':(w3.drewN m4).cell? ⟨wr.heap.size,1,none⟩=some (.slice none 0 0):=c1'
    obtain ⟨va4,vc4,rfl,_⟩:=h3.1.shape
    obtain ⟨a4,c4,rfl,_⟩:=h4.1.shape
    obtain ⟨vn4,hvn4⟩:∃ vn4,vn4=x.val.length:=⟨_,rfl⟩
    obtain ⟨rn,hrn⟩:∃ rn,rn=R.length:=⟨_,rfl⟩
    rw [← hvn4] at h3 ⊢
    rw [← hrn] at h4 ⊢
    have HRN:=Lib.hid hrn.symm
    clear f1 c1' c2' f2
    have HV:=Lib.hid (anZ h3 (anZ h4 CB4))
    clear h3 h4 CB4 hvn4 hrn
    go_upto_region 11 with fail
    obtain ⟨w4,hw4⟩:∃ w4,w4=(w3.drewN m4).setCell ⟨wr.heap.size,1,none⟩ (.slice va4 vn4 vc4):=⟨_,rfl⟩
    rw [← hw4]
    have C4:=Lib.hid (show Cel w4 wr.heap.size [.slice a1 kn c1, .slice va4 vn4 vc4, .bool false] 61 from by rw [hw4]; exact HV.out.2.2.set 1 _)
    have W4:=Lib.hid hw4
    clear hw4 f1' c1''
    obtain ⟨h13,h23,CB3,hst3,hkn,hn2,hcap2⟩:=H3.out
    obtain ⟨hO,hbx, -,hsn,hok,hR,hnn,hS,hbn,hon, -⟩:=HB.out
    have hst34:Step (fun q=>Sx q∨q=wr.heap.size) w3 w4 Sx:=by
     rw [W4.out]
     exact ((Step.drewN (Step.refl (fun q=>Sx q∨q=wr.heap.size) w3) m4).set (p:=⟨wr.heap.size,1,none⟩) (.inr rfl) _).weak fun q hq=>.inl hq
    have hb4:Below wr.heap.size wr w4:=by
     have h1:=HB3.out
     rw [W4.out]
     exact (below_drewN h1 m4).setCell (p:=⟨wr.heap.size,1,none⟩) (Nat.le_refl _) _
    have hO4:=hO.below hb4
    have k13:=h13.step hst34
    have k4:Bsf w4 Sx (.slice a4 rn c4) R:=HV.out.2.1.step hst34
    have kv:Bsf w4 Sx (.slice va4 vn4 vc4) x.val:=HV.out.1.step hst34
    have hon2:(l.take r).length≤1000000000:=by rw [List.length_take]; omega
    obtain ⟨ua,uc,un,w6,Sy,hun,hrun,hO6,hst6⟩:=hO4.push wr_ty ⟨⟨a1,kn,c1⟩,⟨va4,vn4,vc4⟩,x⟩ (cs:=(#[.slice a1 kn c1, .slice va4 vn4 vc4, .bool false]:Array Value)) (by show _ = #[_,_,Value.bool x.gone]; rw [← HG.out]; rfl) ⟨k13,kv⟩ hon2
    have hfin:Bsf w6 Sy (.slice a4 rn c4) (recL (l.drop (r+1))):=by rw [← hR]; exact k4.step hst6
    rw [show kdWr.con ⟨⟨a1,kn,c1⟩,⟨va4,vn4,vc4⟩,x⟩=x from rfl, ← hsn] at hO6 hun
    have hm:rn < bn:=by
     have h9:=HRN.out
     rw [hbn]
     split <;> simp <;> omega
    have H6:=Lib.hid (anZ hfin (anZ hO6 hm))
    have e0:w4.cell? ⟨wr.heap.size,0,none⟩=some (.slice a1 kn c1):=C4.out.cell 0
    have e1:w4.cell? ⟨wr.heap.size,1,none⟩=some (.slice va4 vn4 vc4):=C4.out.cell 1
    have e2:w4.cell? ⟨wr.heap.size,2,none⟩=some (.bool false):=C4.out.cell 2
    clear hO hbx hsn hok hR hnn hS hbn hon hst34 hb4 hO4 k13 k4 kv hon2 hfin hm hun h13 h23 CB3 hst3 hkn hn2 hcap2 hO6 hst6
    go_wp2_with (at_builtin; refine klist_append_run rfl (.tmp 38) (.tmp 40) _ rfl rfl rfl hrun ?_)
    clear hrun e0 e1 e2
    go_roundw
    case rel=>exact ⟨r+1,Sy,by omega,⟨_,rfl⟩,H6.out.1,H6.out.2.1⟩
    case measure=>exact H6.out.2.2
   ·simp only [if_true] at h23 hn2 hc2
    have hb0:w3.cell? ⟨g2,o2,none⟩=some (.int .u8 129):=by
     have:=hc2 0 129 rfl
     rw [Nat.add_zero] at this
     exact this
    clear hc2
    have hs2:∀ w1:World,(Instr.slice 24 (.slice (some ⟨g2,o2,none⟩) n2 cp2) (some (.int .i64 1)) none none).run Tryz.prog w1 = .ok (sliced (some ⟨g2,o2,none⟩) 1 n2 cp2 1) w1:=run_slice_low (P:=Tryz.prog) bt (v:=.slice (some ⟨g2,o2,none⟩) n2 cp2) rfl .i64 1 (by omega)
    have h4:Bsf w3 (fun q=>Sx q∨q=wr.heap.size) (sliced (some ⟨g2,o2,none⟩) 1 n2 cp2 1) R:=by
     refine ⟨?_,fun _ q hq=>h23.2 (by simp) q (by rw [← sliced_own _ _ _ _ _ n2 cp2]; exact hq)⟩
     have:=bs_from h23.1 1 (by omega)
     exact this
    obtain ⟨v4,hv4⟩:∃ v4,v4=sliced (some ⟨g2,o2,none⟩) 1 n2 cp2 1:=⟨_,rfl⟩
    rw [← hv4] at hs2 h4
    have HS2:=Lib.hid hs2
    clear hs2 hv4 h23 hst3 CB3 h13 hkn hn2 hcap2 hpos
    go_upto_region 7 with fail
    refine region_till 99 (fun _=>True) (by kernel_rfl) trivial (fun hS=>?_)
    refine tkZ (i:=0) 26 (.slice (some ⟨g2,o2,none⟩) n2 cp2) rfl rfl (by kernel_rfl) (fun _ _ _ h=>h) (by rfl) (fun W hW=>?_) hS ?_
    ·have hx:=HS2.out W
     clear hW
     go_simp
    simp only [Act.put,sAZ,sBZ,sCZ]
    refine tkZ (i:=1) 27 (v4) rfl rfl (by kernel_rfl) (fun _ _ _ h=>h) (by rfl) (fun W hW=>?_) hS ?_
    ·have hx:=HS2.out W
     clear hW
     go_simp
    simp only [Act.put,sAZ,sBZ,sCZ]
    refine tkZ (i:=2) 28 (.pointer (some ⟨wr.heap.size,2,none⟩)) rfl rfl (by kernel_rfl) (fun _ _ _ h=>h) (by rfl) (fun W hW=>?_) hS ?_
    ·have hx:=HS2.out W
     clear hW
     go_simp
    simp only [Act.put,sAZ,sBZ,sCZ]
    have d2:w3.drew.cell? ⟨wr.heap.size,2,none⟩=some (.bool false):=c2'
    have e2:w3.drew.frozen? ⟨wr.heap.size,2,none⟩=false:=f2
    refine next_till 3 (by kernel_rfl) rfl (fun K hK=>?_)
    go_simp
    refine hK.out _ _ (fun _=>trivial) ?_
    clear hK K
    refine next_till 4 (by kernel_rfl) rfl (fun K hK=>?_)
    go_simp
    refine hK.out _ _ (fun _=>trivial) ?_
    clear hK K d2 e2 f1 f2 c1' c2' hb0
    refine done_till (by kernel_rfl) ?_ _
    obtain ⟨a4,c4,rfl,_⟩:=h4.1.shape
    obtain ⟨rn,hrn⟩:∃ rn,rn=R.length:=⟨_,rfl⟩
    rw [← hrn] at h4 ⊢
    have HRN:=Lib.hid hrn.symm
    obtain ⟨w4,hw4⟩:∃ w4,w4=(w3.setCell ⟨wr.heap.size,2,none⟩ (.bool true)).drew:=⟨_,rfl⟩
    rw [← hw4]
    obtain ⟨va4,hva4⟩:∃ va4:Option Addr,va4=none:=⟨_,rfl⟩
    obtain ⟨vn4,hvn4⟩:∃ vn4:Nat,vn4=0:=⟨_,rfl⟩
    obtain ⟨vc4,hvc4⟩:∃ vc4:Nat,vc4=0:=⟨_,rfl⟩
    have C4:=Lib.hid (show Cel w4 wr.heap.size [.slice a1 kn c1, .slice va4 vn4 vc4, .bool true] 61 from by rw [hw4,hva4,hvn4,hvc4]; exact H3.out.2.2.1.set 2 _)
    have W4:=Lib.hid hw4
    have HV:=Lib.hid (anZ h4 (anZ hva4 (anZ hvn4 hvc4)))
    clear hw4 h4 hrn hva4 hvn4 hvc4
    obtain ⟨h13,h23,CB3,hst3,hkn,hn2,hcap2⟩:=H3.out
    obtain ⟨hO,hbx, -,hsn,hok,hR,hnn,hS,hbn,hon, -⟩:=HB.out
    have hst34:Step (fun q=>Sx q∨q=wr.heap.size) w3 w4 Sx:=by
     rw [W4.out]
     exact (((Step.refl (fun q=>Sx q∨q=wr.heap.size) w3).set (p:=⟨wr.heap.size,2,none⟩) (.inr rfl) _).drew).weak fun q hq=>.inl hq
    have hb4:Below wr.heap.size wr w4:=by
     have h1:=HB3.out
     rw [W4.out]
     exact below_drewN (h1.setCell (p:=⟨wr.heap.size,2,none⟩) (Nat.le_refl _) _) 1
    have hO4:=hO.below hb4
    have k13:=h13.step hst34
    have k4:Bsf w4 Sx (.slice a4 rn c4) R:=HV.out.1.step hst34
    have kv:Bsf w4 Sx (.slice va4 vn4 vc4) x.val:=by
     rw [HV.out.2.1,HV.out.2.2.1,HV.out.2.2.2,hok.2 HG.out.symm]
     exact Bsf.nil _ _
    have hon2:(l.take r).length≤1000000000:=by rw [List.length_take]; omega
    obtain ⟨ua,uc,un,w6,Sy,hun,hrun,hO6,hst6⟩:=hO4.push wr_ty ⟨⟨a1,kn,c1⟩,⟨va4,vn4,vc4⟩,x⟩ (cs:=(#[.slice a1 kn c1, .slice va4 vn4 vc4, .bool true]:Array Value)) (by show _ = #[_,_,Value.bool x.gone]; rw [← HG.out]; rfl) ⟨k13,kv⟩ hon2
    have hfin:Bsf w6 Sy (.slice a4 rn c4) (recL (l.drop (r+1))):=by rw [← hR]; exact k4.step hst6
    rw [show kdWr.con ⟨⟨a1,kn,c1⟩,⟨va4,vn4,vc4⟩,x⟩=x from rfl, ← hsn] at hO6 hun
    have hm:rn < bn:=by
     have h9:=HRN.out
     rw [hbn]
     split <;> simp <;> omega
    have H6:=Lib.hid (anZ hfin (anZ hO6 hm))
    have e0:w4.cell? ⟨wr.heap.size,0,none⟩=some (.slice a1 kn c1):=C4.out.cell 0
    have e1:w4.cell? ⟨wr.heap.size,1,none⟩=some (.slice va4 vn4 vc4):=C4.out.cell 1
    have e2:w4.cell? ⟨wr.heap.size,2,none⟩=some (.bool true):=C4.out.cell 2
    clear hO hbx hsn hok hR hnn hS hbn hon hst34 hb4 hO4 k13 k4 kv hon2 hfin hm hun h13 h23 CB3 hst3 hkn hn2 hcap2 hO6 hst6
    go_wp2_with (at_builtin; refine klist_append_run rfl (.tmp 38) (.tmp 40) _ rfl rfl rfl hrun ?_)
    clear hrun e0 e1 e2
    go_roundw
    case rel=>exact ⟨r+1,Sy,by omega,⟨_,rfl⟩,H6.out.1,H6.out.2.1⟩
    case measure=>exact H6.out.2.2
  ·obtain rfl:r=n:=by omega
   have e0:l.drop r=[]:=List.drop_eq_nil_of_le (by omega)
   have hb0:¬ (0:Int) < (bn:Int):=by rw [hbn,e0]; simp [recL]
   rw [List.take_of_length_le (by omega)] at hO
   have MC:=mayCommit_any (hO.done hS) (by omega)
   rw [decide_eq_true hc] at MC
   have HB:=Lib.hid (anZ (hO.done hS) hO.bel)
   clear hO hbs hnn hc hS hbn hon e0
   go_wp2_with fail
   refine MC.mono ?_
   rintro e w2 ⟨rfl,hb2⟩
   clear MC
   have HB2:=Lib.hid hb2
   clear hb2
   go_wp2
   go_ret2
   exact ⟨_,rfl,HB.out.1.step (Step.of_below HB2.out S),HB.out.2.trans (HB2.out.mono HB.out.2.size)⟩
end Go.Proofs.YtgkofgifoiinkaaGreat
namespace Go.Proofs.YtgkofgifoiinkaaGreat
open Go.RowKit
theorem RowG.at' {w:World} {G:Nat→Prop} {v:Value} {ls:List Bytes} (h:RowG w G v ls) (hn:0 < ls.length):∃ g cap,v = .slice (some ⟨g,0,none⟩) ls.length cap∧∀ (i:Nat) (l:Bytes),ls[i]? = some l→∃ a c,w.cell? ⟨g,i,none⟩=some (.slice a l.length c)∧Bs w (.slice a l.length c) l∧∀ q,(Value.slice a l.length c).ownBlock=some q→G q:=by
 obtain ⟨vals,ho,he,hv⟩:=h
 rcases ho.2 with ⟨rfl,h0⟩ | ⟨g,cap,cur,rfl,hbg,hh,r⟩
 ·omega
 ·refine ⟨g,cap,rfl,fun i l hi=>?_⟩
  obtain ⟨u,hu,hb,hq⟩:=he i l hi
  have hlt:=(List.getElem?_eq_some_iff.1 hi).1
  obtain ⟨a,c,rfl,hb'⟩:=hb.shape
  refine ⟨a,c,?_,hb',fun q h=>(hq q h).1⟩
  rw [ho.cellAt i (by omega)]
  exact hu
theorem foldC_len:∀ (C:List (List Wr)) (P:List Pr),(∀ l∈C,l.length≤1000)→(C.foldl doneC P).length≤P.length+1000*C.length
 | [],P,_=>by simp
 | l::r,P,h=>by
  have h1:=foldC_len r (doneC P l) fun x hx=>h x (List.mem_cons_of_mem _ hx)
  have h2:=doneC_len (P:=P) l
  have h3:=h l List.mem_cons_self
  simp only [List.foldl_cons,List.length_cons]
  omega
section
variable {w:World} {sb db pb tb mb g n a s:Nat} {jv:Value} {pg:Int} {D:Dv} {ps:List Pg} {dead:Bool} {P:List Pr} {C:List (List Wr)} {F G:Nat→Prop}
def Replays (w:World) (sb db pb tb mb:Nat) (D:Dv) (ps:List Pg) (g:Nat) (dead:Bool) (P:List Pr) (C:List (List Wr)) (n a s:Nat) (F G:Nat→Prop) (e:Ending) (w':World):Prop :=
 e = .returned (err 0)∧∃ jb J,StA w' sb db pb tb jb mb D ps J g dead (C.foldl doneC P) F G∧PS J D (C.map recL) n∧StJ J a s∧w.heap.size≤jb∧Step (BS sb mb F G) w w' (AS sb jb mb F G)
set_option maxRecDepth 100000 in
set_option maxHeartbeats 4000000 in
theorem sreplay_any (h:StB w sb db pb tb mb jv D ps g dead P F G) (ho:D.on=true) (hc:Clean D.bk) (hu:Upto D n) (hh:Holds 2 360 a s D.bk (C.map recL)) (hs:1≤s∧s≤4000000) (ha:a≤4096) (hcom:∀ l∈C,ComOk l∧l.length≤1000) (hok:okUp P) (hP:P.length≤100000) (hCl:C.length≤360) :
  Calls Tryz.prog 39 #[ptr sb,rootV3 pg a s] w (Replays w sb db pb tb mb D ps g dead P C n a s F G):=by
 obtain ⟨w1,hw1⟩:∃ w1,w1=w.alloc (.cells #[.int .i64 pg, .int .i64 (a:Int), .int .u64 (s:Int)] 80):=⟨_,rfl⟩
 have hb1:Below w.heap.size w w1:=by rw [hw1]; exact (Below.refl _ _).alloc (Nat.le_refl _) _
 have hrt:Cel w1 w.heap.size [.int .i64 pg, .int .i64 (a:Int), .int .u64 (s:Int)] 80:=by rw [hw1]; exact Cel.new w _ _
 have HH:=Lib.hid (anZ h (anZ ho (anZ hc (anZ hu (anZ hh (anZ hs (anZ ha (anZ hcom (anZ hok (anZ hP (anZ hCl (anZ hb1 hrt))))))))))))
 have HW:=Lib.hid hw1.symm
 clear h ho hc hu hh hs ha hcom hok hP hCl hb1 hrt hw1
 go_enter Tryz.func39,Tryz.ntmps39
 go_upto_region 2 with fail
 rw [HW.out]
 obtain ⟨h,ho,hc,hu,hh,hs,ha,hcom,hok,hP,hCl,hb1,hrt⟩:=HH.out
 have hA1:=h.below hb1
 have HX:=Lib.hid (fun (W:World) (hW:W.cell? ⟨sb,0,none⟩=some (ptr db)∧W.heap[w.heap.size]? = w1.heap[w.heap.size]?)=>anZ hW.1 (anZ (show W.cell? ⟨w.heap.size,1,none⟩=some (.int .i64 (a:Int)) from (hrt.kept hW.2).cell 1) (show W.cell? ⟨w.heap.size,2,none⟩=some (.int .u64 (s:Int)) from (hrt.kept hW.2).cell 2)))
 refine region_till 99 (fun W=>W.cell? ⟨sb,0,none⟩=some (ptr db)∧W.heap[w.heap.size]? = w1.heap[w.heap.size]?) (by kernel_rfl) ⟨(hA1.drewN 1).top.cells.1,rfl⟩ (fun hS=>?_)
 refine tkZ (i:=0) 11 (ptr sb) rfl rfl (by kernel_rfl) (fun _ _ _ h=>h) (by rfl) (fun W hW=>?_) hS ?_
 ·obtain ⟨c0,c1,c2⟩:=HX.out W hW
  clear hW
  go_simp
 simp only [Act.put,sAZ,sBZ,sCZ]
 refine tkZ (i:=1) 12 (ptr sb) rfl rfl (by kernel_rfl) (fun _ _ _ h=>h) (by rfl) (fun W hW=>?_) hS ?_
 ·obtain ⟨c0,c1,c2⟩:=HX.out W hW
  clear hW
  go_simp
 simp only [Act.put,sAZ,sBZ,sCZ]
 refine tkZ (i:=2) 13 (ptr sb) rfl rfl (by kernel_rfl) (fun _ _ _ h=>h) (by rfl) (fun W hW=>?_) hS ?_
 ·obtain ⟨c0,c1,c2⟩:=HX.out W hW
  clear hW
  go_simp
 simp only [Act.put,sAZ,sBZ,sCZ]
 refine tkZ (i:=3) 14 (.pointer (some ⟨sb,0,none⟩)) rfl rfl (by kernel_rfl) (fun _ _ _ h=>h) (by rfl) (fun W hW=>?_) hS ?_
 ·obtain ⟨c0,c1,c2⟩:=HX.out W hW
  clear hW
  go_simp
 simp only [Act.put,sAZ,sBZ,sCZ]
 refine tkZ (i:=4) 15 (ptr db) rfl rfl (by kernel_rfl) (fun _ _ _ h=>h) (by rfl) (fun W hW=>?_) hS ?_
 ·obtain ⟨c0,c1,c2⟩:=HX.out W hW
  clear hW
  go_simp
 simp only [Act.put,sAZ,sBZ,sCZ]
 refine tkZ (i:=5) 16 (.pointer (some ⟨w.heap.size,1,none⟩)) rfl rfl (by kernel_rfl) (fun _ _ _ h=>h) (by rfl) (fun W hW=>?_) hS ?_
 ·obtain ⟨c0,c1,c2⟩:=HX.out W hW
  clear hW
  go_simp
 simp only [Act.put,sAZ,sBZ,sCZ]
 refine tkZ (i:=6) 17 (.int .i64 (a:Int)) rfl rfl (by kernel_rfl) (fun _ _ _ h=>h) (by rfl) (fun W hW=>?_) hS ?_
 ·obtain ⟨c0,c1,c2⟩:=HX.out W hW
  clear hW
  go_simp
 simp only [Act.put,sAZ,sBZ,sCZ]
 refine tkZ (i:=7) 18 (.pointer (some ⟨w.heap.size,2,none⟩)) rfl rfl (by kernel_rfl) (fun _ _ _ h=>h) (by rfl) (fun W hW=>?_) hS ?_
 ·obtain ⟨c0,c1,c2⟩:=HX.out W hW
  clear hW
  go_simp
 simp only [Act.put,sAZ,sBZ,sCZ]
 refine tkZ (i:=8) 19 (.int .u64 (s:Int)) rfl rfl (by kernel_rfl) (fun _ _ _ h=>h) (by rfl) (fun W hW=>?_) hS ?_
 ·obtain ⟨c0,c1,c2⟩:=HX.out W hW
  clear hW
  go_simp
 simp only [Act.put,sAZ,sBZ,sCZ]
 have OP:=dev_open (w:=w1.drew) (hA1.drewN 1).dev ho hc hu hh ⟨hs.1,by omega⟩ (fun x hx=>by obtain ⟨l,hl,rfl⟩:=List.mem_map.1 hx; have:=recL_blocks (hcom l hl).1.1 (hcom l hl).2; omega)
 clear h ho hc hu hh hs ha hcom hok hP hCl hb1
 refine next_till 9 (by kernel_rfl) rfl (fun K hK=>?_)
 go_simp
 refine OP.mono ?_
 rintro e w2 ⟨lv,RG,J,rfl,hrow,hrg,hj,hps,j1,j2,j3,j4,hb2⟩
 clear OP
 obtain ⟨jb,hjb⟩:∃ jb,jb=w1.heap.size:=⟨_,rfl⟩
 replace hj:JAt w2 jb db J:=by rw [hjb]; exact hj
 replace hrg:∀ q,RG q→jb < q:=fun q hq=>by rw [hjb]; exact (hrg q hq).1
 have hA2:=(hA1.drewN 1).below hb2
 have hlow:w.heap.size≤jb:=by rw [hjb]; exact HH.out.2.2.2.2.2.2.2.2.2.2.2.1.size
 have S2:w2.cell? ⟨sb,0,none⟩=some (ptr db)∧w2.heap[w.heap.size]? = w1.heap[w.heap.size]?:=⟨hA2.top.cells.1,hb2.block _ hrt.lt⟩
 obtain ⟨la,lc,rfl⟩:=hrow.shape
 obtain ⟨ln,hln⟩:∃ ln,ln=(C.map recL).length:=⟨_,rfl⟩
 rw [← hln] at hrow
 rw [← hln]
 have hbw2:Below w.heap.size w w2:=HH.out.2.2.2.2.2.2.2.2.2.2.2.1.trans (((below_drewN (Below.refl w1.heap.size w1) 1).trans hb2).mono HH.out.2.2.2.2.2.2.2.2.2.2.2.1.size)
 have HB:=Lib.hid (anZ hA2 (anZ hrow (anZ hrg (anZ hj (anZ hps (anZ (show StJ J a s from ⟨j1,j2,j3,j4⟩) (anZ hlow (anZ hln hbw2))))))))
 rw [show (w1.drew.heap.size:Nat)=jb from hjb.symm]
 clear hrow hrg hj hps j1 j2 j3 j4 hb2 hA1 hrt hA2 hlow hln hjb hbw2
 go_simp
 refine hK.out _ _ (fun _=>S2) ?_
 clear hK K hS
 have hS:=S2
 refine tkZ (i:=10) 10 (.tuple #[ptr jb, .slice la ln lc,err 0]) rfl rfl (by kernel_rfl) (fun _ _ _ h=>h) (by rfl) (fun W hW=>?_) hS ?_
 ·clear HX
  clear hW
  go_simp
 simp only [Act.put,sAZ,sBZ,sCZ]
 refine tkZ (i:=11) 21 (ptr jb) rfl rfl (by kernel_rfl) (fun _ _ _ h=>h) (by rfl) (fun W hW=>?_) hS ?_
 ·clear HX
  clear hW
  go_simp
 simp only [Act.put,sAZ,sBZ,sCZ]
 refine tkZ (i:=12) 22 (.slice la ln lc) rfl rfl (by kernel_rfl) (fun _ _ _ h=>h) (by rfl) (fun W hW=>?_) hS ?_
 ·clear HX
  clear hW
  go_simp
 simp only [Act.put,sAZ,sBZ,sCZ]
 refine tkZ (i:=13) 23 (.int .i64 0) rfl rfl (by kernel_rfl) (fun _ _ _ h=>h) (by rfl) (fun W hW=>?_) hS ?_
 ·clear HX
  clear hW
  go_simp
 simp only [Act.put,sAZ,sBZ,sCZ]
 refine tkZ (i:=14) 24 (ptr sb) rfl rfl (by kernel_rfl) (fun _ _ _ h=>h) (by rfl) (fun W hW=>?_) hS ?_
 ·clear HX
  clear hW
  go_simp
 simp only [Act.put,sAZ,sBZ,sCZ]
 refine tkZ (i:=15) 25 (.pointer (some ⟨sb,3,none⟩)) rfl rfl (by kernel_rfl) (fun _ _ _ h=>h) (by rfl) (fun W hW=>?_) hS ?_
 ·clear HX
  clear hW
  go_simp
 simp only [Act.put,sAZ,sBZ,sCZ]
 have c3:w2.cell? ⟨sb,3,none⟩=some jv:=HB.out.1.top.cells.2.2.2.1
 have f3:=HB.out.1.top.frozen 3
 obtain ⟨hB3,hst3⟩:=HB.out.1.set (g':=g) (jv':=ptr jb) (dead':=dead) 3 (ptr jb) (HB.out.1.top.setJ (ptr jb))
 have hjsb:jb≠sb:=fun e=>by have:=HH.out.1.top.lt; have:=HB.out.2.2.2.2.2.2.1; omega
 have S3:(w2.setCell ⟨sb,3,none⟩ (ptr jb)).cell? ⟨sb,0,none⟩=some (ptr db)∧(w2.setCell ⟨sb,3,none⟩ (ptr jb)).heap[w.heap.size]? = w1.heap[w.heap.size]?:=⟨hB3.top.cells.1,(Below.heap_setCell _ _ _ _ (fun (e:w.heap.size=sb)=>by have:=HH.out.1.top.lt; omega)).trans S2.2⟩
 have hA3:StA (w2.setCell ⟨sb,3,none⟩ (ptr jb)) sb db pb tb jb mb D ps J g dead P F G:=⟨hB3,HB.out.2.2.2.1.kept (Below.heap_setCell _ _ _ _ hjsb),fun hf=>by have:=HH.out.1.dev.fl _ hf; have:=HB.out.2.2.2.2.2.2.1; omega,fun hg=>by have:=HH.out.1.pgs.fl _ hg; have:=HB.out.2.2.2.2.2.2.1; omega⟩
 have hrow3:RowG (w2.setCell ⟨sb,3,none⟩ (ptr jb)) RG (.slice la ln lc) (C.map recL):=HB.out.2.1.only (S:=fun q=>q=sb) ((Only.refl (fun q=>q=sb) w2).setCell (p:=⟨sb,3,none⟩) (.inl rfl) _) fun q hq e=>by have:=HB.out.2.2.1 q hq; have:=HH.out.1.top.lt; have:=HB.out.2.2.2.2.2.2.1; omega
 obtain ⟨w3,hw3⟩:∃ w3,w3=w2.setCell ⟨sb,3,none⟩ (ptr jb):=⟨_,rfl⟩
 rw [← hw3] at hB3 hst3 S3 hA3 hrow3
 have HC:=Lib.hid (anZ hA3 (anZ hrow3 ((Step.of_below HB.out.2.2.2.2.2.2.2.2 (BS sb mb F G)).trans hst3)))
 have HW3:=Lib.hid hw3.symm
 clear hB3 hst3 hjsb hA3 hrow3 hw3 S2
 refine next_till 16 (by kernel_rfl) rfl (fun K hK=>?_)
 go_simp
 rw [HW3.out]
 refine hK.out _ _ (fun _=>S3) ?_
 clear hK K hS c3 f3
 have hS:=S3
 refine tkZ (i:=17) 5 (.slice la ln lc) rfl rfl (by kernel_rfl) (fun _ _ _ h=>h) (by rfl) (fun W hW=>?_) hS ?_
 ·clear HX
  clear hW
  go_simp
 simp only [Act.put,sAZ,sBZ,sCZ]
 refine tkZ (i:=18) 4 (.int .i64 0) rfl rfl (by kernel_rfl) (fun _ _ _ h=>h) (by rfl) (fun W hW=>?_) hS ?_
 ·clear HX
  clear hW
  go_simp
 simp only [Act.put,sAZ,sBZ,sCZ]
 refine done_till (by kernel_rfl) ?_ _
 clear hS S3 HX
 go_wp2_with fail
 go_loopw [31] (fun i wr=>∃ r:Nat,r≤ln∧i = .int .i64 (r:Int)∧StA wr sb db pb tb jb mb D ps J g dead ((C.take r).foldl doneC P) F G∧Step (BS sb mb F G) w3 wr (BS sb mb F G)) (fun i _=>ln-(intOf i).toNat)
 case atStart=>exact ⟨0,Nat.zero_le _,rfl,HC.out.1,Step.refl _ _⟩
 case round =>
  obtain ⟨r,hr,rfl,hA,hst⟩:=hrel
  obtain ⟨h,ho,hc,hu,hh,hs,ha,hcom,hok,hP,hCl,hb1,hrt⟩:=HH.out
  have hln:ln=C.length:=by rw [HB.out.2.2.2.2.2.2.2.1,List.length_map]
  by_cases hlt:r < ln
  ·obtain ⟨l,hl⟩:∃ l,C[r]? = some l:=⟨_,List.getElem?_eq_getElem (by omega)⟩
   have hlc:=hcom l (List.mem_of_getElem? hl)
   have hrg:∀ q,RG q→¬ BS sb mb F G q:=fun q hq hb=>by have:=HB.out.2.2.1 q hq; have:=h.lt q hb; have:=HB.out.2.2.2.2.2.2.1; omega
   have hrow:=HC.out.2.1.only hst.only hrg
   obtain ⟨gg,cap,e0,hcs⟩:=hrow.at' (by rw [List.length_map]; omega)
   rw [← HB.out.2.2.2.2.2.2.2.1] at e0
   simp only [Value.slice.injEq] at e0
   obtain ⟨rfl, -,rfl⟩:=e0
   obtain ⟨xa,xc,hcell,hbs,hown⟩:=hcs r (recL l) (by rw [List.getElem?_map,hl]; rfl)
   have hil:(r:Int) < (ln:Int):=by omega
   have hr0:(0:Int)≤(r:Int):=by omega
   have hln6:ln≤1000:=by omega
   have RD:=recorded_any (S:=BS sb mb F G) ⟨hbs,fun _ q hq=>hrg q (hown q hq)⟩ hA.b.lt hlc.1 (by omega)
   obtain ⟨xn,hxn⟩:∃ xn,xn=(recL l).length:=⟨_,rfl⟩
   rw [← hxn] at hcell RD
   have hsn:(C.take (r+1)).foldl doneC P=doneC ((C.take r).foldl doneC P) l:=by rw [List.take_add_one,hl,List.foldl_append]; rfl
   have hokr:okUp ((C.take r).foldl doneC P):=okUp_fold _ hok fun x hx=>hcom x (List.mem_of_mem_take hx)
   have hlr:=foldC_len (C.take r) P fun x hx=>(hcom x (List.mem_of_mem_take hx)).2
   have hlt2:((C.take r).foldl doneC P).length≤1000000:=by rw [List.length_take] at hlr; omega
   have HD:=Lib.hid (anZ hA (anZ hst (anZ hlc (anZ hsn (anZ hokr (anZ hlt2 hlt))))))
   clear hrow hcs hbs hown hxn hsn hokr hlr hlt2 hA hst hlc hrg h ho hc hu hh hs ha hcom hok hP hCl hb1 hrt hln hl hr hlt
   go_wp2_with fail
   refine RD.mono ?_
   rintro e w4 ⟨rv,rfl,hrd,hb4⟩
   clear RD hcell
   have hA4:=HD.out.1.below hb4
   have DO:=sdo_any (S:=BS sb mb F G) hA4.b.top hA4.b.map HD.out.2.2.2.2.1 HD.out.2.2.2.2.2.1 hrd (.inl rfl) (.inr (.inl rfl)) HD.out.2.2.1.1.1 (by have:=HD.out.2.2.1.2; omega)
   obtain ⟨ra,rc,rfl, -⟩:=hrd.shape
   obtain ⟨rn,hrn⟩:∃ rn,rn=l.length:=⟨_,rfl⟩
   rw [← hrn] at DO
   rw [← hrn]
   have HE:=Lib.hid (anZ hA4 (HD.out.2.1.bel hb4))
   clear hrd hrn hb4 hA4
   go_wp2_with fail
   refine DO.mono ?_
   rintro e w5 ⟨rfl,hd5⟩
   clear DO
   obtain ⟨hB5,hst5⟩:=HE.out.1.b.does hd5
   obtain ⟨hA5, -⟩:=HE.out.1.with hB5 hst5
   have HF:=Lib.hid (anZ hA5 (HE.out.2.trans hst5))
   clear hB5 hst5 hA5 hd5
   go_wp2
   go_roundw
   case rel=>exact ⟨r+1,HD.out.2.2.2.2.2.2,by go_num,by rw [HD.out.2.2.2.1]; exact HF.out.1,HF.out.2⟩
   case measure =>
    have:=HD.out.2.2.2.2.2.2
    simp [intOf]; omega
  ·obtain rfl:r=ln:=by omega
   have hil:¬ (r:Int) < (r:Int):=by omega
   rw [hln,List.take_length] at hA
   have HE:=Lib.hid (anZ hA (HC.out.2.2.trans hst))
   clear h ho hc hu hh hs ha hcom hok hP hCl hb1 hrt hA hst hlt hr
   clear hln
   go_wp2
   go_ret
   refine ⟨rfl,jb,J,HE.out.1,HB.out.2.2.2.2.1,HB.out.2.2.2.2.2.1,HB.out.2.2.2.2.2.2.1,HE.out.2.only.mono fun q _ hq=>hq,fun q hq=>?_⟩
   rcases hq with hq | e
   ·exact HE.out.2.more q hq
   ·exact .inr (by rw [e]; exact HB.out.2.2.2.2.2.2.1)
end
end Go.Proofs.YtgkofgifoiinkaaGreat
namespace Go.Proofs.YtgkofgifoiinkaaGreat
open Go.RowKit
section
variable {w:World} {sb b1 rb:Nat} {dv pv tv jv:Value} {g mb jb:Nat} {bn:Int} {dead:Bool} {R:Ending→World→Prop} {rv:Value}
set_option maxRecDepth 100000 in
set_option maxHeartbeats 1000000 in
theorem cl_append (hb:Cel w b1 [ptr sb] 31) (hs:StC w sb dv pv tv (ptr jb) g mb bn dead) {l:Bytes} (hv:Bs w rv l) (hr:Cel w rb [rv] 24) (h:Calls Tryz.prog 51 #[ptr jb,rv] w.drew R) (hR:One R)
  (hK:∀ e w',R e w'→w'.heap[b1]? = w.heap[b1]? ∧ w'.heap[rb]? = w.heap[rb]? ∧ w'.heap[sb]? = w.heap[sb]?) :
  Calls Tryz.prog 50 #[ptr b1,ptr rb] w R:=by
 obtain ⟨va,vc,rfl, -⟩:=hv.shape
 obtain ⟨vn,hvn⟩:∃ vn,vn=l.length:=⟨_,rfl⟩
 rw [← hvn] at hr h
 have HX:=Lib.hid (fun (W:World) (hW:W.heap[b1]? = w.heap[b1]? ∧ W.heap[rb]? = w.heap[rb]? ∧ W.heap[sb]? = w.heap[sb]?)=>anZ (show W.cell? ⟨b1,0,none⟩=some (ptr sb) from (hb.kept hW.1).cell 0) (anZ (show W.cell? ⟨rb,0,none⟩=some (.slice va vn vc) from (hr.kept hW.2.1).cell 0) ((hs.kept hW.2.2).cells.2.2.2.1)))
 have HR:=Lib.hid (anZ hR hK)
 have HC:=Lib.hid h
 clear hb hs hv hr hvn h hR hK
 go_enter Tryz.func50,Tryz.ntmps50
 go_upto_region 1 with fail
 refine region_till 99 (fun W=>W.heap[b1]? = w.heap[b1]? ∧ W.heap[rb]? = w.heap[rb]? ∧ W.heap[sb]? = w.heap[sb]?) (by kernel_rfl) ⟨rfl,rfl,rfl⟩ (fun hS=>?_)
 refine tkZ (i:=0) 3 (ptr sb) rfl rfl (by kernel_rfl) (fun _ _ _ h=>h) (by rfl) (fun W hW=>?_) hS ?_
 ·obtain ⟨c0,c1,c2⟩:=HX.out W hW
  clear hW
  go_simp
 simp only [Act.put,sAZ,sBZ,sCZ]
 refine tkZ (i:=1) 4 (ptr sb) rfl rfl (by kernel_rfl) (fun _ _ _ h=>h) (by rfl) (fun W hW=>?_) hS ?_
 ·obtain ⟨c0,c1,c2⟩:=HX.out W hW
  clear hW
  go_simp
 simp only [Act.put,sAZ,sBZ,sCZ]
 refine tkZ (i:=2) 5 (.pointer (some ⟨sb,3,none⟩)) rfl rfl (by kernel_rfl) (fun _ _ _ h=>h) (by rfl) (fun W hW=>?_) hS ?_
 ·obtain ⟨c0,c1,c2⟩:=HX.out W hW
  clear hW
  go_simp
 simp only [Act.put,sAZ,sBZ,sCZ]
 refine tkZ (i:=3) 6 (ptr jb) rfl rfl (by kernel_rfl) (fun _ _ _ h=>h) (by rfl) (fun W hW=>?_) hS ?_
 ·obtain ⟨c0,c1,c2⟩:=HX.out W hW
  clear hW
  go_simp
 simp only [Act.put,sAZ,sBZ,sCZ]
 refine tkZ (i:=4) 7 (.slice va vn vc) rfl rfl (by kernel_rfl) (fun _ _ _ h=>h) (by rfl) (fun W hW=>?_) hS ?_
 ·obtain ⟨c0,c1,c2⟩:=HX.out W hW
  clear hW
  go_simp
 simp only [Act.put,sAZ,sBZ,sCZ]
 refine next_till 5 (by kernel_rfl) rfl (fun K hK=>?_)
 go_simp
 refine HC.out.mono ?_
 intro e w1 hQ
 obtain ⟨c,rfl⟩:=HR.out.1 e w1 hQ
 have S2:=HR.out.2 _ w1 hQ
 have HQ:=Lib.hid hQ
 clear hQ hS
 have hS:=S2
 go_simp
 refine hK.out _ _ (fun _=>S2) ?_
 clear hK K S2
 refine tkZ (i:=6) 2 (.int .i64 c) rfl rfl (by kernel_rfl) (fun _ _ _ h=>h) (by rfl) (fun W hW=>?_) hS ?_
 ·clear HX
  clear hW
  go_simp
 simp only [Act.put,sAZ,sBZ,sCZ]
 refine done_till (by kernel_rfl) ?_ _
 clear hS
 go_wp2
 exact HQ.out
set_option maxHeartbeats 1000000 in
theorem cl_do (hb:Cel w b1 [ptr sb] 31) {τ α:Type} {K:Kd τ α} {S:Nat→Prop} {l:List α} (hv:Rd K w S rv l) (hr:Cel w rb [rv] 39) {Q:World→Prop} (h:Calls Tryz.prog 53 #[ptr sb,rv] w fun e w'=>e = .returned (.tuple #[])∧Q w') :
  Calls Tryz.prog 52 #[ptr b1,ptr rb] w fun e w'=>e = .returned (.int .i64 0)∧Q w':=by
 obtain ⟨va,vc,rfl, -⟩:=hv.shape
 obtain ⟨vn,hvn⟩:∃ vn,vn=l.length:=⟨_,rfl⟩
 rw [← hvn] at hr h
 have c0:w.cell? ⟨b1,0,none⟩=some (ptr sb):=hb.cell 0
 have c1:w.cell? ⟨rb,0,none⟩=some (.slice va vn vc):=hr.cell 0
 clear hb hr hv hvn
 go_enter Tryz.func52,Tryz.ntmps52
 go_wp2_with fail
 refine h.mono ?_
 rintro e w1 ⟨rfl,hQ⟩
 have HQ:=Lib.hid hQ
 clear h c0 c1 hQ
 go_wp2
 go_ret
 exact ⟨rfl,HQ.out⟩
end
def comL (b1 rb lb:Nat):List Fv:=[⟨50, #[ptr b1,ptr rb]⟩,⟨52, #[ptr b1,ptr lb]⟩]
section
variable {w1:World} {T0 X:Nat→Prop} {sb db pb tb jb mb b1 rb lb:Nat} {P:List Pr} {rv lv:Value} {l:List Wr} {A4 A5:Dv→List Pg→Jn→Nat→Prop} {Bad:Dv→Prop}
def MayApp (l:Bytes) (A5:Dv→List Pg→Jn→Nat→Prop) (Bad:Dv→Prop) (D:Dv) (ps:List Pg) (J:Jn) (g:Nat):Prop :=
 J.Fit∧(∃ n,Upto D n∧n≤1000000)∧J.dead=false∧J.ahead+nBlocks l.length≤J.size∧J.fr+J.size≤D.bk.length∧D.on=true∧J.seq+J.held+1 < 18446744073709551616∧(writeD J D l).1.bk.length=D.bk.length ∧
 (((writeD J D l).2.2=0∧A5 (writeD J D l).1 ps (appJ J D l) g)∨((writeD J D l).2.2=8∧Bad (writeD J D l).1))
theorem chain_append (hb1:Cel w1 b1 [ptr sb] 31) (hbo:¬ T0 b1) (hrb:Cel w1 rb [rv] 24) (hro:¬ T0 rb) (hv:Bs w1 rv (recL l)) (hvo:∀ q,rv.ownBlock=some q→¬ T0 q∧q < w1.heap.size)
  (hlb:Cel w1 lb [lv] 39) (hlo:¬ T0 lb) (hl:Rd kdWr w1 T0 lv l) (hok:∀ x∈l,WrOk x) (hln:l.length≤1000) (hP:okUp P∧P.length≤1000000) (hin:∀ D ps J g,A4 D ps J g→MayApp (recL l) A5 Bad D ps J g) :
  Chain (Keeps w1 T0) (BadW w1 T0 X sb db pb tb jb mb false Bad) (comL b1 rb lb) (At w1 T0 X sb db pb tb jb mb false P fun D ps J g _=>A4 D ps J g) (At w1 T0 X sb db pb tb jb mb false (doneC P l) fun D ps J g _=>A5 D ps J g):=by
 have hrl:=recL_length hok
 refine ⟨fun w h=>h.keeps,enters_of Tryz.func50 (by kernel_rfl) rfl,At w1 T0 X sb db pb tb jb mb false P fun D ps J g _=>A5 D ps J g,?_,?_⟩
 ·rintro w hAt
  have hkp:=hAt.keeps
  obtain ⟨D,ps,J,g,F,G,hA,hX,hs,h4⟩:=hAt
  obtain ⟨hfit,⟨n,hu,hn⟩,hdd,hroom,hfr,hon,hsq,hlen,hend⟩:=hin _ _ _ _ h4
  have hA1:=hA.drewN 1
  have hout:∀ q,(¬ T0 q∧q < w1.heap.size)→¬ (AS sb jb mb F G q∨X q):=fun q hq ha=>by
   rcases hs.more q ha with h1 | h1
   ·exact hq.1 h1
   ·omega
  have hvw:Bs w rv (recL l):=hv.only hs.only fun q hq=>(hvo q hq).1
  have hoff:∀ q,rv.ownBlock=some q→¬ F q:=fun q hq hf=>hout q (hvo q hq) (.inl (.inl (.inr (.inr (.inl hf)))))
  have AP:=append_go (w:=w.drew) hA1.j hfit hA1.b.dev hA.fo hu (by omega) hdd hroom hfr hon hsq (hvw.kept fun _ _ hu=>hu) hoff
  have hk:∀ (q:Nat) (cs:List Value) (t:TypeId),Cel w1 q cs t→¬ T0 q→∀ w',Only (fun x=>F x∨x=jb) w.drew w'→w'.heap[q]? = w.heap[q]?:=fun q cs t hc hq w' ho=>by
   have hcw:=hkp.cel hc hq
   refine ho.block q hcw.lt fun hx=>hout q ⟨hq,hc.lt⟩ ?_
   rcases hx with hx | e
   ·exact .inl (.inl (.inr (.inr (.inl hx))))
   ·exact .inl (.inr e)
  refine (cl_append (hkp.cel hb1 hbo) hA.b.top hvw (hkp.cel hrb hro) AP (fun e w' h=>⟨_,h.1⟩) (fun e w' h=>⟨hk _ _ _ hb1 hbo w' h.2.2.2,hk _ _ _ hrb hro w' h.2.2.2,?_⟩)).mono ?_
  ·refine h.2.2.2.block sb hA.b.top.lt fun hx=>?_
   rcases hx with hx | e
   ·exact (hA.b.fo _ hx).1 rfl
   ·exact hA.out (e ▸ .inl rfl)
  ·rintro e w2 ⟨rfl,hd,hj,ho⟩
   obtain ⟨hA2,hs2⟩:=hA1.apps hd hj ho hlen
   have hX1:∀ q,X q→¬ AS sb jb mb F G q∧q < w.drew.heap.size:=hX
   rcases hend with ⟨k1,k2⟩ | ⟨k1,k2⟩
   ·exact .inl ⟨by rw [k1],at_step (D:=D) (ps:=ps) (J:=J) (g:=g) hX1 hs.drew hA2 hs2 k2⟩
   ·exact .inr ⟨8,by decide,by rw [k1],rfl,P,at_step (D:=D) (ps:=ps) (J:=J) (g:=g) hX1 hs.drew hA2 hs2 k2⟩
 refine ⟨fun w h=>h.keeps,enters_of Tryz.func52 (by kernel_rfl) rfl,At w1 T0 X sb db pb tb jb mb false (doneC P l) fun D ps J g _=>A5 D ps J g,?_,fun w h=>⟨h.keeps,h⟩⟩
 ·rintro w hAt
  have hkp:=hAt.keeps
  obtain ⟨D,ps,J,g,F,G,hA,hX,hs,h4⟩:=hAt
  have hlw:=hl.step hs
  have DO:=sdo_any (S:=fun q=>AS sb jb mb F G q∨X q) hA.b.top hA.b.map hP.1 hP.2 hlw (.inl (.inl (.inl rfl))) (.inl (.inl (.inr (.inl rfl)))) hok (by omega)
  refine (cl_do (hkp.cel hb1 hbo) hlw (hkp.cel hlb hlo) DO).mono ?_
  rintro e w2 ⟨rfl,hd⟩
  obtain ⟨hB2,hst2⟩:=hA.b.does hd
  obtain ⟨hA2,hs2⟩:=hA.with hB2 hst2
  exact .inl ⟨rfl,at_step (D:=D) (ps:=ps) (J:=J) (g:=g) hX hs hA2 hs2 h4⟩
end
end Go.Proofs.YtgkofgifoiinkaaGreat
namespace Go.Proofs.YtgkofgifoiinkaaGreat
open Go.RowKit
theorem Phs.weak {D0:Dv} {ps0:List Pg} {J0:Jn} {g0 n:Nat} {P:List Pr} {A1 A2:Dv→List Pg→Int→Prop} {A3:Dv→List Pg→Prop} {Bad Bad':Dv→Prop} (h:Phs D0 ps0 J0 g0 n P A1 A2 A3 Bad) (hb:∀ D,Bad D→Bad' D):Phs D0 ps0 J0 g0 n P A1 A2 A3 Bad' :=
 {h with
  s1:=fun i BL root' pgs' h1 h2 h3 h4 h5 h6=>(h.s1 i BL root' pgs' h1 h2 h3 h4 h5 h6).imp id fun ⟨k1,k2⟩=>⟨k1,hb _ k2⟩
  s2:=fun D ps pg k=>(h.s2 D ps pg k).imp id fun ⟨k1,k2⟩=>⟨k1,hb _ k2⟩
  s3:=fun D ps pg k=>(h.s3 D ps pg k).imp id fun ⟨k1,k2⟩=>⟨k1,hb _ k2⟩ }
section
variable {D D0:Dv} {ps:List Pg} {J:Jn} {g n m n' m':Nat} {P:List Pr} {l:List Wr}
def Aft (D0:Dv) (P:List Pr) (n m:Nat) (D:Dv) (ps:List Pg) (J:Jn) (g:Nat):Prop:=Lv D ps J g P n m∧(D0.left < 0→D.left < 0)∧D.bk.length=D0.bk.length
theorem Lv.mayApp (h:Lv D ps J g P n m) (hl:ComOk l∧l.length≤1000) (hr:J.ahead+nBlocks (recL l).length≤360) (hb:bytesP (doneC P l)≤roomN D.bk.length) (hn:n≤950000) (hm:m+1≤4000000) (h0:(D0.left < 0→D.left < 0)∧D.bk.length=D0.bk.length)
  (hn':n+345≤n') (hm':m+1≤m'):MayApp (recL l) (Aft D0 (doneC P l) n' m') (BadD D0 P (doneC P l) n' m') D ps J g:=by
 obtain ⟨pg,a,s,P0,pgs,C,h1,h2,h3,h4,h5,h6,h7⟩:=h
 have hah:J.ahead=takenBy (C.map recL):=h4.ahead
 obtain ⟨j1,j2,j3,j4⟩:=h5
 have hrl:=recL_blocks hl.1.1 hl.2
 have hlen:=h1.len
 have hsq:J.seq+J.held≤m:=by rw [j4,h4.held,List.length_map]; omega
 have hpc:nPieces (recL l).length+2=nBlocks (recL l).length∨nPieces (recL l).length≤nBlocks (recL l).length:=by unfold nBlocks; omega
 have hat:J.at_ < J.size:=h4.fit.atl
 have hA:=apart_write (J:=J) (D:=D) (l:=recL l) h2 (by omega) hat (by omega)
 refine ⟨h4.fit,⟨n,h4.upto,by omega⟩,h4.live,by omega,by omega,h2,by omega,hA.len,?_⟩
 rcases disk_append h1 h4 ⟨j1,j2,j3,j4⟩ hl (by omega) hb (by omega) with ⟨k1,k2,k3,k4,k5⟩ | ⟨k1,k2,k3⟩
 ·have hon:(writeD J D (recL l)).1.on=true:=k3.on
  refine .inl ⟨k1,Lv.more (n:=n+nPieces (recL l).length+3) (m:=m+1) ⟨pg,a,s,P0,pgs,C++[l],k2,hon,by rw [hA.len]; exact h3,k3,k4,by omega,by rw [List.length_append]; simp; omega⟩ (by omega) hm',fun hz=>k5 (h0.1 hz),hA.len.trans h0.2⟩
 ·exact .inr ⟨k1,fun hz=>k2 (h0.1 hz),hA.len.trans h0.2,k3.more (by omega) (by omega)⟩
end
section
variable {w w1 w2:World} {e:Ending} {T0 X:Nat→Prop} {sb db pb tb jb mb n m:Nat} {P P':List Pr} {D0:Dv} {F G:Nat→Prop}
theorem lasts_of (hE:Ended sb (At w1 T0 X sb db pb tb jb mb false P' fun D ps J g _=>Aft D0 P' n m D ps J g) (BadW w1 T0 X sb db pb tb jb mb false (BadD D0 P P' n m)) e w2) (hst:Step (AS sb jb mb F G) w w1 T0):LastsC w sb db D0 P P' n m (AS sb jb mb F G) e w2:=by
 rcases hE with ⟨rfl,w3,hG,rfl⟩ | ⟨c,hc,rfl,w3,⟨rfl,P2,hB⟩,rfl⟩
 ·obtain ⟨D',ps',J',g',F',G',hA',hs',h1,h2,h3⟩:=at_dead hG false
  exact .inl ⟨rfl,D',_,⟨_,_,_,_,_,_,_,_,_,hA',rfl,h1⟩,(hst.trans hs').weak fun q hq=>.inl hq,h2,h3⟩
 ·obtain ⟨D',ps',J',g',F',G',hA',hs',h1,h2,h3⟩:=at_dead hB true
  exact .inr ⟨rfl,D',_,⟨P2,_,_,_,_,_,_,_,_,_,hA',rfl,trivial⟩,(hst.trans hs').weak fun q hq=>.inl hq,h1,h3,h2⟩
theorem Ended.one {Good:World→Prop} {Bad:Int→World→Prop}:One (Ended sb Good Bad):=fun e w' h=>h.elim (fun h=>⟨_,h.1⟩) fun ⟨c,_,h,_⟩=>⟨c,h⟩
theorem Ended.kept {A:Dv→List Pg→Jn→Nat→World→Prop} {Bad:Dv→Prop} {q:Nat} {cs:List Value} {t:TypeId} (hE:Ended sb (At w1 T0 X sb db pb tb jb mb false P' A) (BadW w1 T0 X sb db pb tb jb mb false Bad) e w2) (hc:Cel w1 q cs t) (hq:¬ T0 q) (hs:q≠sb):Cel w2 q cs t:=by
 rcases hE with ⟨rfl,w3,hG,rfl⟩ | ⟨c,hc0,rfl,w3,⟨rfl,P2,hB⟩,rfl⟩
 ·exact (hG.keeps.cel hc hq).kept (Below.heap_setCell _ _ _ _ hs)
 ·exact (hB.keeps.cel hc hq).kept (Below.heap_setCell _ _ _ _ hs)
end
end Go.Proofs.YtgkofgifoiinkaaGreat
