/- Bytes that end in their sum, and such of which bits were turned, in plain words; no condition. -/
import Derived.Test.YtgkofgifoiinkaaGreatN03
import Derived.Test.YtgkofgifoiinkaaGreatN01
import Derived.Deep.QuietTactic
import Derived.BigQuiet
namespace Go.Proofs.YtgkofgifoiinkaaGreat
open Go.RowKit
theorem putL_two (l:Bytes) (n:Nat):putL l n 2=l++beL n 2:=rfl
theorem putL_four (l:Bytes) (n:Nat):putL l n 4=l++beL n 4:=rfl
theorem enc_take_succ (lvl:Nat) (l:List En) (j:Nat) (e:En) (h:l[j]? = some e):(l.take (j+1)).flatMap (encE lvl)=(l.take j).flatMap (encE lvl)++encE lvl e:=by
 rw [List.take_add_one,h]
 simp
theorem bodyL_take_succ (lvl:Nat) (l:List En) (j:Nat) (e:En) (h:l[j]? = some e):bodyL lvl (l.take (j+1))=bodyL lvl (l.take j)++encE lvl e:=by
 unfold bodyL
 rw [enc_take_succ lvl l j e h,List.append_assoc]
set_option maxHeartbeats 1000000 in
theorem body_any {p:Int} {lvl:Nat} {ev tv:Value} {S:Nat→Prop} {es:List En} (w:World) (h:Rd kdEn w S ev es) (hf:Few es) (hp:∀ e∈es,e.page≤4294967295) (hn:2+nsize lvl es≤1073741824) (hl:lvl≤65535) :
  Calls Tryz.prog 200 #[ndv p (lvl:Int) ev tv] w fun e w'=>∃ v,e = .returned v∧Bs w' v (bodyL lvl es)∧Below w.heap.size w w':=by
 obtain ⟨ea,ec,rfl,_⟩:=h.shape
 have hb:Below w.heap.size w (w.alloc (.cells #[.int .i64 p, .int .i64 (lvl:Int), .slice ea es.length ec,tv] 179)):=(Below.refl _ _).alloc (Nat.le_refl _) _
 have cl:(w.alloc (.cells #[.int .i64 p, .int .i64 (lvl:Int), .slice ea es.length ec,tv] 179)).cell? ⟨w.heap.size,1,none⟩=some (.int .i64 (lvl:Int)):=by simp
 have cl2:(w.alloc (.cells #[.int .i64 p, .int .i64 (lvl:Int), .slice ea es.length ec,tv] 179)).cell? ⟨w.heap.size,2,none⟩=some (.slice ea es.length ec):=by simp
 have z:(w.alloc (.cells #[.int .i64 p, .int .i64 (lvl:Int), .slice ea es.length ec,tv] 179)).heap.size=w.heap.size+1:=by simp
 have P0:=put_any (b:=.slice none 0 0) (l:=[]) lvl 2 (w.alloc (.cells #[.int .i64 p, .int .i64 (lvl:Int), .slice ea es.length ec,tv] 179)) (Bs.nil _) (by decide)
 rw [putL_two,List.nil_append] at P0
 have hl0:(lvl:Int)≤65535:=by omega
 have hlen:es.length≤1073741824:=by have:=length_le_nsize lvl es; omega
 have HH:=Lib.hid (anZ h (anZ hf (anZ hp (anZ hb (anZ cl (anZ cl2 z))))))
 clear h hf hp hb cl cl2 z
 go_enter Tryz.func200,Tryz.ntmps200
 go_wp2_with fail
 refine P0.mono ?_
 rintro e w1 ⟨v1,rfl,ho1,hb1⟩
 clear P0
 have d1:=(hb1.cell (p:=⟨w.heap.size,1,none⟩) (by rw [HH.out.2.2.2.2.2.2]; exact Nat.lt_succ_self _)).trans HH.out.2.2.2.2.1
 have d2:=(hb1.cell (p:=⟨w.heap.size,2,none⟩) (by rw [HH.out.2.2.2.2.2.2]; exact Nat.lt_succ_self _)).trans HH.out.2.2.2.2.2.1
 have hz1:w.heap.size < w1.heap.size:=by have:=hb1.size; have:=HH.out.2.2.2.2.2.2; omega
 have hbw1:=HH.out.2.2.2.1.trans (hb1.mono (by have:=HH.out.2.2.2.2.2.2; omega))
 have H1:=Lib.hid (anZ ho1.bs (anZ hbw1 (anZ d1 hz1)))
 clear ho1 hb1 hz1 hbw1 d1
 go_wp2
 go_loopw [3,13] (fun b i wr=>∃ j:Nat,j≤es.length∧i = .int .i64 j∧Bs wr b (bodyL lvl (es.take j))∧Below w1.heap.size w1 wr) (fun _ i _=>es.length-(intOf i).toNat)
 case atStart=>exact ⟨0,Nat.zero_le _,rfl,by simpa [bodyL] using H1.out.1,Below.refl _ _⟩
 case round =>
  obtain ⟨j,hj,rfl,hbs,hbw⟩:=hrel
  have bw:=H1.out.2.1.trans (hbw.mono (Nat.le_of_lt H1.out.2.2.2))
  by_cases hlt:j < es.length
  ·obtain ⟨a,ha⟩:∃ a,es[j]? = some a:=⟨_,List.getElem?_eq_getElem hlt⟩
   have hr:=HH.out.1.step (Step.of_below bw S)
   obtain ⟨g,o,cap,ka,kc,va,vc,e0,hg,c0,c1,c2,hk,hv⟩:=hr.ent ha
   simp only [Value.slice.injEq] at e0
   obtain ⟨rfl,_,rfl⟩:=e0
   have hil:(j:Int) < (es.length:Int):=by omega
   have c3:wr.cell? ⟨w.heap.size,1,none⟩=some (.int .i64 (lvl:Int)):=(hbw.cell (p:=⟨w.heap.size,1,none⟩) H1.out.2.2.2).trans H1.out.2.2.1
   have hfa:=HH.out.2.1 a (List.mem_of_getElem? ha)
   have hpa:=HH.out.2.2.1 a (List.mem_of_getElem? ha)
   have hsz:(bodyL lvl (es.take j)).length+esize lvl a≤1073741824:=by
    have h1:=nsize_take_succ lvl es j a ha
    have h2:=nsize_take_le lvl es (j+1)
    rw [bodyL_length]
    omega
   have hes:2+a.key.length≤esize lvl a:=by unfold esize; split <;> omega
   have hw1:Below wr.heap.size wr (wr.alloc (.cells #[.slice ka a.key.length kc, .slice va a.val.length vc, .int .i64 (a.page:Nat)] 197)):=(Below.refl _ _).alloc (Nat.le_refl _) _
   have PK:=putBytes_any _ (hbs.below hw1) (hk.1.below hw1) (by omega) hfa.1
   have HB:=Lib.hid (bodyL_take_succ lvl es j a ha)
   have hz2:(wr.alloc (.cells #[.slice ka a.key.length kc, .slice va a.val.length vc, .int .i64 (a.page:Nat)] 197)).heap.size=wr.heap.size+1:=by simp
   have e1:(wr.alloc (.cells #[.slice ka a.key.length kc, .slice va a.val.length vc, .int .i64 (a.page:Nat)] 197)).cell? ⟨wr.heap.size,1,none⟩=some (.slice va a.val.length vc):=by simp
   have e2:(wr.alloc (.cells #[.slice ka a.key.length kc, .slice va a.val.length vc, .int .i64 (a.page:Nat)] 197)).cell? ⟨wr.heap.size,2,none⟩=some (.int .i64 (a.page:Nat)):=by simp
   have hwz:w.heap.size < wr.heap.size:=by have:=hbw.size; have:=H1.out.2.2.2; omega
   have c4:(wr.alloc (.cells #[.slice ka a.key.length kc, .slice va a.val.length vc, .int .i64 (a.page:Nat)] 197)).cell? ⟨w.heap.size,1,none⟩=some (.int .i64 (lvl:Int)):=(hw1.cell (p:=⟨w.heap.size,1,none⟩) hwz).trans c3
   have H2:=Lib.hid (anZ hbw (anZ hw1 (anZ hz2 (anZ e1 (anZ e2 (anZ c4 (anZ hv (anZ hwz (anZ hsz hfa.2)))))))))
   clear hr ha hbs hk hv hbw bw hw1 hz2 e1 e2 c4 hwz hfa c3
   go_wp2_with fail
   refine PK.mono ?_
   rintro e w2 ⟨v2,rfl,ho2,hb2⟩
   clear PK
   obtain ⟨hbw,hw1,hz2,e1,e2,c4,hv,hwz,hsz,hfv⟩:=H2.out
   have f1:=(hb2.cell (p:=⟨wr.heap.size,1,none⟩) (by rw [hz2]; exact Nat.lt_succ_self _)).trans e1
   have f2:=(hb2.cell (p:=⟨wr.heap.size,2,none⟩) (by rw [hz2]; exact Nat.lt_succ_self _)).trans e2
   have f3:=(hb2.cell (p:=⟨w.heap.size,1,none⟩) (by rw [hz2]; show w.heap.size < _; omega)).trans c4
   have hb3:=hbw.trans ((hw1.trans (hb2.mono (by omega))).mono hbw.size)
   have hb4:=hw1.trans (hb2.mono (by omega))
   have hpi:(a.page:Int)≤4294967295:=by omega
   by_cases hl00:lvl=0
   ·have hli:((lvl:Int) == 0)=true:=by rw [hl00]; rfl
    have PV:=putBytes_any w2 ho2.bs (hv.1.below hb4) (by unfold putsL; rw [List.length_append,List.length_append,beL_length]; omega) hfv
    have H3:=Lib.hid (anZ hb3 (anZ hb4 hl00))
    clear hbw hw1 hz2 e1 e2 c4 hv hwz hsz hfv H2 ho2 hb2 hb3 hb4 hl00 f2
    go_wp2_with fail
    refine PV.mono ?_
    rintro e w3 ⟨v3,rfl,ho3,hb5⟩
    clear PV
    have H4:=Lib.hid (anZ ho3 hb5)
    clear ho3 hb5
    go_wp2
    go_roundw
    case rel =>
     refine ⟨j+1,by omega,by go_num,?_,H3.out.1.trans (H4.out.2.mono H3.out.1.size)⟩
     have:=H4.out.1.bs
     rw [HB.out]
     unfold putsL at this
     unfold encE
     rw [if_pos H3.out.2.2]
     simpa only [List.append_assoc] using this
    case measure=>simp [intOf]; omega
   ·have hli:((lvl:Int) == 0)=false:=by rw [beq_eq_false_iff_ne]; omega
    have PV:=put_any a.page 4 w2 ho2.bs (by unfold putsL; rw [List.length_append,List.length_append,beL_length]; omega)
    rw [putL_four] at PV
    have H3:=Lib.hid (anZ hb3 (anZ hb4 hl00))
    clear hbw hw1 hz2 e1 e2 c4 hv hwz hsz hfv H2 ho2 hb2 hb3 hb4 hl00 f1
    go_wp2_with fail
    refine PV.mono ?_
    rintro e w3 ⟨v3,rfl,ho3,hb5⟩
    clear PV
    have H4:=Lib.hid (anZ ho3 hb5)
    clear ho3 hb5
    go_wp2
    go_roundw
    case rel =>
     refine ⟨j+1,by omega,by go_num,?_,H3.out.1.trans (H4.out.2.mono H3.out.1.size)⟩
     have:=H4.out.1.bs
     rw [HB.out]
     unfold putsL at this
     unfold encE
     rw [if_neg H3.out.2.2]
     simpa only [List.append_assoc] using this
    case measure=>simp [intOf]; omega
  ·obtain rfl:j=es.length:=by omega
   rw [List.take_length] at hbs
   have H2:=Lib.hid (anZ hbs bw)
   clear hbs bw hbw
   go_wp2
   go_ret
   exact ⟨_,rfl,H2.out.1,H2.out.2⟩
end Go.Proofs.YtgkofgifoiinkaaGreat
namespace Go.Proofs.YtgkofgifoiinkaaGreat
open Go.RowKit
def takeMay (l:List UInt8) (p k:Int):Prop:=mayB k=true∧0≤p∧p≤l.length
instance (l:List UInt8) (p k:Int):Decidable (takeMay l p k):=by unfold takeMay; exact inferInstance
def takeN (l:List UInt8) (p k:Int):Nat:=if takeMay l p k∧k≤l.length-p then beNat ((l.drop p.toNat).take k.toNat) else 0
def takeX (l:List UInt8) (p k:Int):Int:=if takeMay l p k∧k≤l.length-p then p+k else 0
def takeE (l:List UInt8) (p k:Int):Int:=if takeMay l p k then (if k≤l.length-p then 0 else 5) else 1
def Takes (w:World) (l:List UInt8) (p k:Int) (e:Ending) (w':World):Prop :=
 e = .returned (.tuple #[.int .u64 (takeN l p k), .int .i64 (takeX l p k), .int .i64 (takeE l p k)])∧Below w.heap.size w w'
theorem takes_bad {w w':World} {l:List UInt8} {p k:Int} (h:¬ takeMay l p k) (hb:Below w.heap.size w w') :
  Takes w l p k (.returned (.tuple #[.int .u64 0, .int .i64 0, .int .i64 1])) w':=by
 refine ⟨?_,hb⟩
 simp [takeN,takeX,takeE,h]
theorem takes_few {w w':World} {l:List UInt8} {p k:Int} (h:takeMay l p k) (h2:l.length-p < k) (hb:Below w.heap.size w w') :
  Takes w l p k (.returned (.tuple #[.int .u64 0, .int .i64 0, .int .i64 5])) w':=by
 refine ⟨?_,hb⟩
 have h2':¬ k≤l.length-p:=by omega
 simp [takeN,takeX,takeE,h,h2']
theorem takes_ok {w w':World} {l:List UInt8} {p k:Nat} (h:takeMay l p k) (h2:(k:Int)≤l.length-p) (hb:Below w.heap.size w w') :
  Takes w l p k (.returned (.tuple #[.int .u64 ((beNat ((l.take (p+k)).drop p):Nat):Int), .int .i64 ((p:Int)+k), .int .i64 0])) w':=by
 refine ⟨?_,hb⟩
 have e:(l.take (p+k)).drop p=(l.drop p).take k:=by rw [List.take_drop]
 simp [takeN,takeX,takeE,h,h2,e]
set_option maxHeartbeats 400000 in
theorem take_any {b:Value} {l:List UInt8} (p k:Int) (w:World) (hb:Bs w b l) (hl:l.length≤1073741824) :
  Calls Tryz.prog 124 #[b, .int .i64 p, .int .i64 k] w (Takes w l p k):=by
 obtain ⟨a,cap,rfl,hb⟩:=hb.shape
 by_cases hk:mayB k=true
 ·by_cases h0:0≤p
  ·by_cases h1:p≤l.length
   ·have hm:takeMay l p k:=⟨hk,h0,h1⟩
    obtain ⟨k1,k8⟩:=mayB_true hk
    obtain ⟨k,rfl⟩:=Int.eq_ofNat_of_zero_le (show 0≤k by omega)
    obtain ⟨p,rfl⟩:=Int.eq_ofNat_of_zero_le h0
    by_cases h2:(k:Int)≤l.length-p
    ·have c1:¬ (p:Int) < 0:=by omega
     have c2:¬ (l.length:Int) < p:=by omega
     have c3:¬ (l.length:Int)-p < k:=by omega
     have fin:=fun (w':World) (hb':Below w.heap.size w w')=>takes_ok (w':=w') hm h2 hb'
     obtain ⟨v,hv,hbv⟩:=run_slice_bs bt w hb .i64 .i64 p (p+k) (by omega) (by omega)
     have hlen:((l.take (p+k)).drop p).length=k:=by simp; omega
     generalize (l.take (p+k)).drop p=m at *
     obtain ⟨b,o,cap',rfl,hcap,hbs,hcell⟩:=hbv.open (by omega)
     rw [hlen] at hv
     rw [Int.natCast_add] at hv
     have Hlen:=Lib.hid hlen
     have Hfin:=Lib.hid fin
     have Hcell:=Lib.hid hcell
     clear hlen fin hcell hbv hm
     go_enter Tryz.func124,Tryz.ntmps124
     go_wp2_with fail
     refine (maySize_any _ _).mono ?_
     rintro e w1 ⟨rfl,hb1⟩
     go_wp2
     go_loop [6,10,38] (fun n x i=>∃ r:Nat,r≤k∧i = .int .i64 r∧n = .int .u64 ((beNat (m.take r):Nat):Int)) (fun _ _ i=>k-(intOf i).toNat)
     case atStart=>exact ⟨0,by omega,rfl,by simp [beNat]⟩
     case round =>
      obtain ⟨r,hr,rfl,rfl⟩:=hrel
      by_cases hlt:r < k
      ·obtain ⟨x,hx⟩:∃ x,m[r]? = some x:=⟨_,List.getElem?_eq_getElem (by have:=Hlen.out; omega)⟩
       have hc:=(hb1.cell (p:=⟨b,o+r,none⟩) (by exact hbs)).trans (Hcell.out r x hx)
       have hbd:beNat (m.take r) < 72057594037927936:=by
        have h:=beNat_lt (m.take r)
        have:(256:Nat) ^ (m.take r).length≤256 ^ 7:=Nat.pow_le_pow_right (by omega) (by have:=List.length_take_le r m; omega)
        omega
       have hxb:=x.toNat_lt
       have Hx:=Lib.hid hx
       clear hx
       go_wp2
       go_round
       case rel =>
        refine ⟨r+1,by omega,by go_num,?_⟩
        rw [beNat_take_succ m r x Hx.out,or_byte _ x hbd]
       case measure=>simp [intOf]; omega
      ·obtain rfl:r=k:=by omega
       have e:m.take r=m:=List.take_of_length_le (by have:=Hlen.out; omega)
       rw [e]
       clear e
       go_wp2
       go_ret3
       exact Hfin.out _ hb1
    ·have c1:¬ (p:Int) < 0:=by omega
     have c2:¬ (l.length:Int) < p:=by omega
     go_enter Tryz.func124,Tryz.ntmps124
     go_wp2_with fail
     refine (maySize_any _ _).mono ?_
     rintro e w1 ⟨rfl,hb1⟩
     go_wp2
     go_ret3
     exact takes_few hm (by omega) hb1
   ·have hm:¬ takeMay l p k:=fun h=>h1 h.2.2
    have c1:¬ p < 0:=by omega
    go_enter Tryz.func124,Tryz.ntmps124
    go_wp2_with fail
    refine (maySize_any _ _).mono ?_
    rintro e w1 ⟨rfl,hb1⟩
    go_wp2
    go_ret3
    exact takes_bad hm hb1
  ·have hm:¬ takeMay l p k:=fun h=>h0 h.2.1
   go_enter Tryz.func124,Tryz.ntmps124
   go_wp2_with fail
   refine (maySize_any _ _).mono ?_
   rintro e w1 ⟨rfl,hb1⟩
   go_wp2
   go_ret3
   exact takes_bad hm hb1
 ·have hm:¬ takeMay l p k:=fun h=>hk h.1
  have hk':mayB k=false:=by simpa using hk
  clear hk
  go_enter Tryz.func124,Tryz.ntmps124
  go_wp2_with fail
  refine (maySize_any _ _).mono ?_
  rintro e w1 ⟨rfl,hb1⟩
  go_wp2
  go_ret3
  exact takes_bad hm hb1
def tbN (l:List UInt8) (p:Int):Nat:=beNat ((l.drop p.toNat).take 2)
def tbOk (l:List UInt8) (p:Int):Prop:=takeMay l p 2∧2+(tbN l p:Int)≤l.length-p
instance (l:List UInt8) (p:Int):Decidable (tbOk l p):=by unfold tbOk; exact inferInstance
def tbL (l:List UInt8) (p:Int):List UInt8:=if tbOk l p then (l.drop (p.toNat+2)).take (tbN l p) else []
def tbX (l:List UInt8) (p:Int):Int:=if tbOk l p then p+2+tbN l p else 0
def tbE (l:List UInt8) (p:Int):Int:=if takeMay l p 2 then (if tbOk l p then 0 else 5) else 1
def TakesB (w:World) (l:List UInt8) (p:Int) (e:Ending) (w':World):Prop :=
 ∃ v,e = .returned (.tuple #[v, .int .i64 (tbX l p), .int .i64 (tbE l p)])∧Ow w' w.heap.size 5 v (tbL l p)∧Below w.heap.size w w'
theorem takesB_bad {w w':World} {l:List UInt8} {p:Int} (h:¬ takeMay l p 2) (hb:Below w.heap.size w w') :
  TakesB w l p (.returned (.tuple #[.slice none 0 0, .int .i64 0, .int .i64 1])) w':=by
 have h2:¬ tbOk l p:=fun q=>h q.1
 refine ⟨.slice none 0 0,by simp [tbX,tbE,h,h2],?_,hb⟩
 simp only [tbL,h2,if_false]
 exact World.ownsRow_nil _ _ _ _
theorem takesB_few {w w':World} {l:List UInt8} {p:Int} (h:takeMay l p 2) (h2:¬ tbOk l p) (hb:Below w.heap.size w w') :
  TakesB w l p (.returned (.tuple #[.slice none 0 0, .int .i64 0, .int .i64 5])) w':=by
 refine ⟨.slice none 0 0,by simp [tbX,tbE,h,h2],?_,hb⟩
 simp only [tbL,h2,if_false]
 exact World.ownsRow_nil _ _ _ _
theorem takesB_ok {w w':World} {l:List UInt8} {p:Nat} {v:Value} (h2:tbOk l p) (ho:Ow w' w.heap.size 5 v ((l.take (p+2+tbN l p)).drop (p+2))) (hb:Below w.heap.size w w') :
  TakesB w l p (.returned (.tuple #[v, .int .i64 ((p:Int)+2+(tbN l p:Int)), .int .i64 0])) w':=by
 have h:=h2.1
 refine ⟨v,by simp [tbX,tbE,h,h2],?_,hb⟩
 simp only [tbL,h2,if_true]
 rw [List.take_drop]
 exact ho
theorem take_two_lt (l:List UInt8) (p:Int):tbN l p < 65536:=by
 have h:=beNat_lt ((l.drop p.toNat).take 2)
 have:(256:Nat) ^ ((l.drop p.toNat).take 2).length≤256 ^ 2:=Nat.pow_le_pow_right (by omega) (List.length_take_le _ _)
 unfold tbN
 omega
theorem take_two (l:List UInt8) (p:Int) (h:takeMay l p 2) (h2:2≤l.length-p):takeN l p 2=tbN l p∧takeX l p 2=p+2∧takeE l p 2=0:=by
 have h':takeMay l p 2∧2≤l.length-p:=⟨h,h2⟩
 simp [takeN,takeX,takeE,tbN,h']
theorem take_two_few (l:List UInt8) (p:Int) (h:takeMay l p 2) (h2:l.length-p < 2):takeN l p 2=0∧takeX l p 2=0∧takeE l p 2=5:=by
 have h3:¬ (2≤l.length-p):=by omega
 simp [takeN,takeX,takeE,h,h3]
theorem take_two_bad (l:List UInt8) (p:Int) (h:¬ takeMay l p 2):takeN l p 2=0∧takeX l p 2=0∧takeE l p 2=1:=by
 simp [takeN,takeX,takeE,h]
end Go.Proofs.YtgkofgifoiinkaaGreat
namespace Go.Proofs.YtgkofgifoiinkaaGreat
open Go.RowKit
set_option maxHeartbeats 400000 in
theorem takeBytes_bad {b:Value} {l:List UInt8} (p:Int) (w:World) (hb:Bs w b l) (hl:l.length≤1073741824) (hm:¬ takeMay l p 2) :
  Calls Tryz.prog 163 #[b, .int .i64 p] w (TakesB w l p):=by
 obtain ⟨a,cap,rfl,hb⟩:=hb.shape
 obtain ⟨t1,t2,t3⟩:=take_two_bad l p hm
 have T1:=Lib.hid t1
 have T2:=Lib.hid t2
 have T3:=Lib.hid t3
 clear t1 t2 t3
 go_enter Tryz.func163,Tryz.ntmps163
 go_wp2_with fail
 refine (take_any _ _ _ hb (by omega)).mono ?_
 rintro e w1 ⟨he,hb1⟩
 rw [T1.out,T2.out,T3.out] at he
 subst he
 go_wp2
 go_ret3
 exact takesB_bad hm hb1
set_option maxHeartbeats 400000 in
theorem takeBytes_few {b:Value} {l:List UInt8} (p:Int) (w:World) (hb:Bs w b l) (hl:l.length≤1073741824) (hm:takeMay l p 2) (h2:¬ 2≤l.length-p) :
  Calls Tryz.prog 163 #[b, .int .i64 p] w (TakesB w l p):=by
 obtain ⟨a,cap,rfl,hb⟩:=hb.shape
 obtain ⟨t1,t2,t3⟩:=take_two_few l p hm (by omega)
 have hok:¬ tbOk l p:=fun q=>h2 (by have:=q.2; omega)
 have T1:=Lib.hid t1
 have T2:=Lib.hid t2
 have T3:=Lib.hid t3
 clear t1 t2 t3
 go_enter Tryz.func163,Tryz.ntmps163
 go_wp2_with fail
 refine (take_any _ _ _ hb (by omega)).mono ?_
 rintro e w1 ⟨he,hb1⟩
 rw [T1.out,T2.out,T3.out] at he
 subst he
 go_wp2
 go_ret3
 exact takesB_few hm hok hb1
set_option maxHeartbeats 400000 in
theorem takeBytes_cut {b:Value} {l:List UInt8} (p:Nat) (w:World) (hb:Bs w b l) (hl:l.length≤1073741824) (hm:takeMay l p 2) (h2:2≤(l.length:Int)-p) (h3:¬ 2+(tbN l p:Int)≤l.length-p) :
  Calls Tryz.prog 163 #[b, .int .i64 (p:Int)] w (TakesB w l p):=by
 obtain ⟨a,cap,rfl,hb⟩:=hb.shape
 obtain ⟨t1,t2,t3⟩:=take_two l p hm h2
 have htn:=take_two_lt l p
 have hok:¬ tbOk l p:=fun q=>h3 q.2
 have fin:=fun (w':World) (hb':Below w.heap.size w w')=>takesB_few (w':=w') hm hok hb'
 generalize tbN l p=n at *
 have T1:=Lib.hid t1
 have T2:=Lib.hid t2
 have T3:=Lib.hid t3
 have Hfin:=Lib.hid fin
 have h4:(l.length:Int)-(p+2) < n:=by omega
 have hp:(p:Int)≤1073741824:=by omega
 clear t1 t2 t3 fin hm hok
 go_enter Tryz.func163,Tryz.ntmps163
 go_wp2_with fail
 refine (take_any _ _ _ hb (by omega)).mono ?_
 rintro e w1 ⟨he,hb1⟩
 rw [T1.out,T2.out,T3.out] at he
 subst he
 go_wp2
 go_ret3
 exact Hfin.out _ hb1
set_option maxHeartbeats 400000 in
theorem takeBytes_ok {b:Value} {l:List UInt8} (p:Nat) (w:World) (hb:Bs w b l) (hl:l.length≤1073741824) (hm:takeMay l p 2) (h2:2≤(l.length:Int)-p) (h3:2+(tbN l p:Int)≤l.length-p) :
  Calls Tryz.prog 163 #[b, .int .i64 (p:Int)] w (TakesB w l p):=by
 obtain ⟨a,cap,rfl,hb⟩:=hb.shape
 obtain ⟨t1,t2,t3⟩:=take_two l p hm h2
 have htn:=take_two_lt l p
 have hok:tbOk l p:=⟨hm,h3⟩
 have fin:=fun (w':World) (v:Value) ho (hb':Below w.heap.size w w')=>takesB_ok (w':=w') (v:=v) hok ho hb'
 obtain ⟨v,hv,hbv⟩:=run_slice_bs bt w hb .i64 .i64 (p+2) (p+2+tbN l p) (by omega) (by omega)
 have hlen:((l.take (p+2+tbN l p)).drop (p+2)).length≤1073741824:=by simp; omega
 have hp:(p:Int)≤1073741824:=by omega
 generalize (l.take (p+2+tbN l p)).drop (p+2)=m at *
 generalize tbN l p=n at *
 have T1:=Lib.hid t1
 have T2:=Lib.hid t2
 have T3:=Lib.hid t3
 have Hfin:=Lib.hid fin
 simp only [Int.natCast_add,Int.cast_ofNat_Int] at hv
 have h4:¬ (l.length:Int)-(p+2) < n:=by omega
 clear t1 t2 t3 fin hm hok
 go_enter Tryz.func163,Tryz.ntmps163
 go_wp2_with fail
 refine (take_any _ _ _ hb (by omega)).mono ?_
 rintro e w1 ⟨he,hb1⟩
 rw [T1.out,T2.out,T3.out] at he
 subst he
 go_wp2_with fail
 refine (withRoom_any 0 _ (hbv.below hb1) (by omega)).mono ?_
 rintro e w2 ⟨v2,rfl,ho2,hb2⟩
 go_wp2
 go_ret3
 exact Hfin.out _ _ (ho2.mono hb1.size) (hb1.trans (hb2.mono hb1.size))
theorem takeBytes_any {b:Value} {l:List UInt8} (p:Int) (w:World) (hb:Bs w b l) (hl:l.length≤1073741824) :
  Calls Tryz.prog 163 #[b, .int .i64 p] w (TakesB w l p):=by
 by_cases hm:takeMay l p 2
 ·by_cases h2:2≤l.length-p
  ·obtain ⟨p,rfl⟩:=Int.eq_ofNat_of_zero_le hm.2.1
   by_cases h3:2+(tbN l p:Int)≤l.length-p
   ·exact takeBytes_ok p w hb hl hm h2 h3
   ·exact takeBytes_cut p w hb hl hm h2 h3
  ·exact takeBytes_few p w hb hl hm h2
 ·exact takeBytes_bad p w hb hl hm
end Go.Proofs.YtgkofgifoiinkaaGreat
namespace Go.Proofs.YtgkofgifoiinkaaGreat
def polyN:Nat:=3988292384
def fullN:Nat:=4294967295
def stepN (x:Nat):Nat:=if x % 2=1 then x / 2 ^^^ polyN else x / 2
def steps:Nat→Nat→Nat
 | 0,x=>x
 | k+1,x=>steps k (stepN x)
theorem steps_add (a b x:Nat):steps (a+b) x=steps b (steps a x):=by
 induction a generalizing x with
 | zero=>simp [steps]
 | succ a ih=>rw [Nat.succ_add]; exact ih _
theorem steps_last (k x:Nat):steps (k+1) x=stepN (steps k x):=by
 rw [steps_add]; rfl
theorem stepN_lt {x:Nat} (h:x < 4294967296):stepN x < 4294967296:=by
 unfold stepN
 split
 ·exact Nat.xor_lt_two_pow (n:=32) (by omega) (by decide)
 ·omega
theorem steps_lt (k:Nat) {x:Nat} (h:x < 4294967296):steps k x < 4294967296:=by
 induction k generalizing x with
 | zero=>exact h
 | succ k ih=>exact ih (stepN_lt h)
def takN (w c:Nat):Nat:=steps 8 (w ^^^ c)
def foldN (w:Nat):List UInt8→Nat
 | []=>w
 | c::l=>foldN (takN w c.toNat) l
theorem foldN_append (w:Nat) (l m:List UInt8):foldN w (l++m)=foldN (foldN w l) m:=by
 induction l generalizing w with
 | nil=>rfl
 | cons c l ih=>exact ih _
theorem foldN_snoc (w:Nat) (l:List UInt8) (c:UInt8):foldN w (l++[c])=takN (foldN w l) c.toNat:=foldN_append w l [c]
theorem takN_lt {w:Nat} (c:UInt8) (h:w < 4294967296):takN w c.toNat < 4294967296 :=
 steps_lt 8 (Nat.xor_lt_two_pow (n:=32) h (by have:=c.toNat_lt; omega))
theorem foldN_lt {w:Nat} (l:List UInt8) (h:w < 4294967296):foldN w l < 4294967296:=by
 induction l generalizing w with
 | nil=>exact h
 | cons c l ih=>exact ih (takN_lt c h)
def leN:List UInt8→Nat
 | []=>0
 | c::l=>c.toNat+256*leN l
theorem low_xor (c L:Nat) (h:c < 256):c+256*L=c ^^^ L*2 ^ 8:=by
 have h1:=Nat.two_pow_add_eq_or_of_lt (i:=8) (b:=c) h L
 have h2:256*L+c=2 ^ 8*L ^^^ c:=by
  rw [show 256*L+c=2 ^ 8*L+c from rfl,h1]
  apply Nat.eq_of_testBit_eq
  intro i
  simp only [Nat.testBit_or,Nat.testBit_xor,Nat.testBit_two_pow_mul]
  by_cases hi:8≤i
  ·have:c.testBit i=false:=Nat.testBit_lt_two_pow (Nat.lt_of_lt_of_le h (Nat.pow_le_pow_right (by decide) hi:2 ^ 8≤2 ^ i))
   simp [this]
  ·simp [hi]
 rw [Nat.add_comm,h2,Nat.xor_comm,Nat.mul_comm]
theorem leN_cons (c:UInt8) (l:List UInt8):leN (c::l)=c.toNat ^^^ leN l*2 ^ 8:=low_xor _ _ c.toNat_lt
theorem leN_lt (l:List UInt8):leN l < 256 ^ l.length:=by
 induction l with
 | nil=>simp [leN]
 | cons c l ih =>
  have:=c.toNat_lt
  simp only [leN,List.length_cons,Nat.pow_succ]
  omega
def notN (x:Nat):Nat:=fullN ^^^ x
def moreN (s:Nat) (l:List UInt8):Nat:=notN (foldN (notN s) l)
def sumN (l:List UInt8):Nat:=moreN 0 l
theorem notN_lt {x:Nat} (h:x < 4294967296):notN x < 4294967296:=Nat.xor_lt_two_pow (n:=32) (by decide) h
theorem notN_eq (x:Nat):notN x=fullN ^^^ x:=rfl
theorem moreN_lt {s:Nat} (l:List UInt8) (h:s < 4294967296):moreN s l < 4294967296:=notN_lt (foldN_lt l (notN_lt h))
theorem sumN_lt (l:List UInt8):sumN l < 4294967296:=moreN_lt l (by decide)
def rightB (l:List UInt8):Bool:=decide (4≤l.length) && (leN (l.drop (l.length-4)) == sumN (l.take (l.length-4)))
def turnL (l:List UInt8) (i m:Nat):List UInt8:=l.set i (UInt8.ofNat ((l[i]?.getD 0).toNat ^^^ m))
theorem turnL_length (l:List UInt8) (i m:Nat):(turnL l i m).length=l.length:=by simp [turnL]
theorem xor_mul (a b k:Nat):(a ^^^ b)*2 ^ k=a*2 ^ k ^^^ b*2 ^ k:=by
 have := @Nat.shiftLeft_xor_distrib k a b
 simpa [Nat.shiftLeft_eq] using this
theorem leN_turn (l:List UInt8) (i m:Nat) (hi:i < l.length) (hm:m < 256):leN (turnL l i m)=leN l ^^^ m*2 ^ (8*i):=by
 induction l generalizing i with
 | nil=>simp at hi
 | cons c l ih =>
  cases i with
  | zero =>
   show leN (UInt8.ofNat (c.toNat ^^^ m)::l)=_
   have hx:c.toNat ^^^ m < 256:=Nat.xor_lt_two_pow (n:=8) c.toNat_lt hm
   rw [leN_cons,leN_cons,UInt8.toNat_ofNat',Nat.mod_eq_of_lt hx,Nat.mul_zero,Nat.pow_zero,Nat.mul_one,Nat.xor_assoc,Nat.xor_assoc,Nat.xor_comm m]
  | succ i =>
   show leN (c::turnL l i m)=_
   rw [leN_cons,leN_cons,ih i (by simpa using hi),Nat.xor_assoc,xor_mul]
   congr 2
   rw [Nat.mul_assoc, ← Nat.pow_add]
   congr 2
theorem mod_succ (t i:Nat):t % 2 ^ (i+1)=t % 2 ^ i ^^^ (t / 2 ^ i % 2)*2 ^ i:=by
 apply Nat.eq_of_testBit_eq
 intro j
 simp only [Nat.testBit_mod_two_pow,Nat.testBit_xor,Nat.testBit_mul_two_pow]
 by_cases h1:j < i
 ·simp [h1,show j < i+1 by omega,show ¬ i≤j by omega]
 ·by_cases h2:j=i
  ·subst h2
   simp only [Nat.lt_irrefl,decide_false,Bool.false_and,Nat.lt_succ_self,decide_true,Bool.true_and,Nat.le_refl,Nat.sub_self,Bool.false_xor]
   rw [Nat.testBit_zero,Nat.testBit_eq_decide_div_mod_eq]
   simp
  ·have h3:(t / 2 ^ i % 2).testBit (j-i)=false:=Nat.testBit_lt_two_pow (Nat.lt_of_lt_of_le (Nat.mod_lt _ (by decide)) (by calc 2=2 ^ 1:=rfl
     _≤2 ^ (j-i):=Nat.pow_le_pow_right (by decide) (by omega)))
   simp [h1,show ¬ j < i+1 by omega,h3]
end Go.Proofs.YtgkofgifoiinkaaGreat
namespace Go.Proofs.YtgkofgifoiinkaaGreat
open Go.RowKit
theorem stepN_odd {n:Nat} (h:n % 2=1):stepN n=n / 2 ^^^ 3988292384:=if_pos h
theorem stepN_even {n:Nat} (h:¬ n % 2=1):stepN n=n / 2:=if_neg h
theorem and_one (n:Nat) (h:n < 4294967296):bits .and .u32 (n:Int) 1=((n % 2:Nat):Int):=by
 have:=u32_and_nat n 1 h (by decide)
 rw [Nat.and_one_is_mod] at this
 exact this
theorem half_xor (n:Nat) (h:n < 4294967296):bits .xor .u32 ((n:Int) / 2) 3988292384=((n / 2 ^^^ 3988292384:Nat):Int) :=
 u32_xor_nat (n / 2) 3988292384 (by omega) (by decide)
set_option maxHeartbeats 400000 in
theorem step_any (n:Nat) (w:World) (hn:n < 4294967296) :
  Calls Tryz.prog 223 #[.int .u32 (n:Int)] w fun e w'=>e = .returned (.int .u32 (stepN n:Nat))∧w=w':=by
 have h1:=and_one n hn
 have h2:=half_xor n hn
 by_cases hp:n % 2=1
 ·have hs:=stepN_odd hp
  rw [hp] at h1
  rw [hs]
  clear hs
  go_enter Tryz.func223,Tryz.ntmps223
  go_wp2
  go_ret
  exact ⟨rfl,rfl⟩
 ·have hs:=stepN_even hp
  rw [show n % 2=0 by omega] at h1
  rw [hs]
  clear hs hp
  go_enter Tryz.func223,Tryz.ntmps223
  go_wp2
  go_ret
  exact ⟨rfl,rfl⟩
theorem byte_xor (n:Nat) (c:UInt8) (h:n < 4294967296):bits .xor .u32 (n:Int) (c.toNat:Int)=((n ^^^ c.toNat:Nat):Int) :=
 u32_xor_nat n c.toNat h (by have:=c.toNat_lt; omega)
set_option maxHeartbeats 400000 in
theorem crcTake_any (n:Nat) (c:UInt8) (w:World) (hn:n < 4294967296) :
  Calls Tryz.prog 219 #[.int .u32 (n:Int), .int .u8 (c.toNat:Int)] w fun e w'=>e = .returned (.int .u32 (takN n c.toNat:Nat))∧w=w':=by
 have h1:=byte_xor n c hn
 have hx:n ^^^ c.toNat < 4294967296:=Nat.xor_lt_two_pow (n:=32) hn (by have:=c.toNat_lt; omega)
 have hc:=c.toNat_lt
 unfold takN
 generalize n ^^^ c.toNat=x at *
 generalize c.toNat=c at *
 go_enter Tryz.func219,Tryz.ntmps219
 go_wp2
 go_loopw [0,9] (fun s i wr=>∃ r:Nat,r≤8∧i = .int .i64 r∧s = .int .u32 (steps r x:Nat)∧w=wr) (fun _ i _=>8-(intOf i).toNat)
 case atStart=>exact ⟨0,by omega,rfl,rfl,rfl⟩
 case round =>
  obtain ⟨r,hr,rfl,rfl,rfl⟩:=hrel
  by_cases hlt:r < 8
  ·go_wp2_with fail
   refine (step_any _ _ (steps_lt r hx)).mono ?_
   rintro e w1 ⟨rfl,rfl⟩
   go_wp2
   go_roundw
   case rel=>exact ⟨r+1,by omega,by go_num,by rw [steps_last],by trivial⟩
   case measure=>simp [intOf]; omega
  ·obtain rfl:r=8:=by omega
   go_wp2
   go_ret
   exact ⟨rfl,rfl⟩
theorem max_u32:IntKind.u32.max=((fullN:Nat):Int):=by decide
theorem not_u32 (n:Nat) (h:n < 4294967296):bits .xor .u32 IntKind.u32.max (n:Int)=(notN n:Nat):=by
 have:=u32_xor_nat fullN n (by decide) h
 rw [max_u32,this,notN_eq]
set_option maxHeartbeats 400000 in
theorem more_any {b:Value} {l:List UInt8} (s:Nat) (w:World) (hb:Bs w b l) (hs:s < 4294967296) :
  Calls Tryz.prog 205 #[.int .u32 (s:Int),b] w fun e w'=>e = .returned (.int .u32 (moreN s l:Nat))∧w=w':=by
 obtain ⟨a,cap,rfl,hb⟩:=hb.shape
 have h1:=not_u32 s hs
 have h2:=not_u32 (foldN (notN s) l) (foldN_lt l (notN_lt hs))
 have hn:=notN_lt hs
 have hlen:=hb.len
 unfold moreN
 generalize notN s=f at *
 generalize hm:notN (foldN f l)=m at *
 clear hm
 go_enter Tryz.func205,Tryz.ntmps205
 go_wp2
 go_loopw [5,7,12] (fun s _ i wr=>∃ r:Nat,r≤l.length∧i = .int .i64 r∧s = .int .u32 (foldN f (l.take r):Nat)∧w=wr) (fun _ _ i _=>l.length-(intOf i).toNat)
 case atStart=>exact ⟨0,by omega,rfl,rfl,rfl⟩
 case round =>
  obtain ⟨r,hr,rfl,rfl,rfl⟩:=hrel
  by_cases hlt:r < l.length
  ·obtain ⟨b0,o0,cap0,e0,q0,hb0,hcells⟩:=hb.open (by omega)
   simp only [Value.slice.injEq] at e0
   obtain ⟨rfl,_,rfl⟩:=e0
   obtain ⟨x,hx⟩:∃ x,l[r]? = some x:=⟨_,List.getElem?_eq_getElem hlt⟩
   have hcell:=hcells r x hx
   have hf:=foldN_lt (l.take r) hn
   have hsn:foldN f (l.take (r+1))=takN (foldN f (l.take r)) x.toNat:=by
    rw [List.take_add_one,hx]
    exact foldN_snoc _ _ _
   have H:=Lib.hid (anZ hx hsn)
   clear hx hsn hcells
   go_wp2_with fail
   refine (crcTake_any _ x _ hf).mono ?_
   rintro e w1 ⟨rfl,rfl⟩
   go_wp2
   go_roundw
   case rel=>exact ⟨r+1,by omega,by go_num,by rw [H.out.2],by trivial⟩
   case measure=>simp [intOf]; omega
  ·obtain rfl:r=l.length:=by omega
   rw [List.take_length]
   go_wp2
   go_ret
   exact ⟨rfl,rfl⟩
set_option maxHeartbeats 400000 in
theorem sum_any {b:Value} {l:List UInt8} (w:World) (hb:Bs w b l) :
  Calls Tryz.prog 174 #[b] w fun e w'=>e = .returned (.int .u32 (sumN l:Nat))∧w=w':=by
 go_enter Tryz.func174,Tryz.ntmps174
 go_wp2_with fail
 refine (more_any 0 _ hb (by decide)).mono ?_
 rintro e w1 ⟨rfl,rfl⟩
 go_wp2
 go_ret
 exact ⟨rfl,rfl⟩
end Go.Proofs.YtgkofgifoiinkaaGreat
namespace Go.Proofs.YtgkofgifoiinkaaGreat
open Go.RowKit
theorem leN_append (l m:List UInt8):leN (l++m)=leN l+leN m*256 ^ l.length:=by
 induction l with
 | nil=>simp [leN]
 | cons c l ih =>
  simp only [List.cons_append,leN,ih,List.length_cons,Nat.pow_succ]
  rw [Nat.mul_add,Nat.add_assoc,Nat.mul_left_comm,Nat.mul_comm 256 (256 ^ _)]
theorem leN_take_succ (l:List UInt8) (r:Nat) (x:UInt8) (hx:l[r]? = some x):leN (l.take (r+1))=leN (l.take r) ||| x.toNat*2 ^ (8*r):=by
 have hr:r < l.length:=(List.getElem?_eq_some_iff.1 hx).1
 have hl:(l.take r).length=r:=by simp; omega
 have hlt:=leN_lt (l.take r)
 rw [hl, ← Nat.pow_mul 2 8 r] at hlt
 rw [List.take_add_one,hx]
 show leN (l.take r++[x])=_
 rw [leN_append,hl]
 show leN (l.take r)+(x.toNat+256*0)*256 ^ r=_
 rw [← Nat.pow_mul 2 8 r,Nat.mul_zero,Nat.add_zero,Nat.add_comm,Nat.mul_comm,Nat.two_pow_add_eq_or_of_lt hlt,Nat.or_comm,Nat.mul_comm]
theorem byte_shl (x:UInt8) (r:Nat) (hr:r < 4):x.toNat*2 ^ (8*r) < 4294967296:=by
 have:=x.toNat_lt
 have h:2 ^ (8*r)≤16777216:=Nat.pow_le_pow_right (by decide) (show 8*r≤24 by omega)
 calc x.toNat*2 ^ (8*r)≤255*16777216:=Nat.mul_le_mul (by omega) h
  _ < 4294967296:=by decide
theorem or_shl (a:Nat) (x:UInt8) (r:Nat) (ha:a < 4294967296) (hr:r < 4):bits .or .u32 (a:Int) ((x.toNat:Int)*2 ^ (8*r) % 4294967296)=((a ||| x.toNat*2 ^ (8*r):Nat):Int):=by
 have hb:=byte_shl x r hr
 have e:(x.toNat:Int)*2 ^ (8*r) % 4294967296=((x.toNat*2 ^ (8*r):Nat):Int):=by
  rw [Int.natCast_mul,Int.natCast_pow]
  have h1:((x.toNat*2 ^ (8*r):Nat):Int) < 4294967296:=by omega
  rw [Int.natCast_mul,Int.natCast_pow] at h1
  exact Int.emod_eq_of_lt (Int.mul_nonneg (by omega) (Int.le_of_lt (Int.pow_pos (by decide)))) h1
 rw [e]
 exact u32_or_nat a _ ha hb
theorem leN_take_lt (l:List UInt8) (r:Nat) (hl:l.length≤4):leN (l.take r) < 4294967296:=by
 have h:=leN_lt (l.take r)
 have h2:256 ^ (l.take r).length≤256 ^ 4:=Nat.pow_le_pow_right (by decide) (by simp; omega)
 have h3:(256:Nat) ^ 4=4294967296:=by decide
 omega
set_option maxHeartbeats 400000 in
theorem lowest_any {b:Value} {l:List UInt8} (w:World) (hb:Bs w b l) (hl:l.length≤4) :
  Calls Tryz.prog 198 #[b] w fun e w'=>e = .returned (.int .u32 (leN l:Nat))∧w=w':=by
 obtain ⟨a,cap,rfl,hb⟩:=hb.shape
 go_enter Tryz.func198,Tryz.ntmps198
 go_wp2
 go_loopw [3,4,5,8] (fun s _ _ i wr=>∃ r:Nat,r≤l.length∧i = .int .i64 r∧s = .int .u32 (leN (l.take r):Nat)∧w=wr) (fun _ _ _ i _=>l.length-(intOf i).toNat)
 case atStart=>exact ⟨0,by omega,rfl,rfl,rfl⟩
 case round =>
  obtain ⟨r,hr,rfl,rfl,rfl⟩:=hrel
  by_cases hlt:r < l.length
  ·obtain ⟨b0,o0,cap0,e0,q0,hb0,hcells⟩:=hb.open (by omega)
   simp only [Value.slice.injEq] at e0
   obtain ⟨rfl,_,rfl⟩:=e0
   obtain ⟨x,hx⟩:∃ x,l[r]? = some x:=⟨_,List.getElem?_eq_getElem hlt⟩
   have hcell:=hcells r x hx
   have hsn:=leN_take_succ l r x hx
   have hbx:=byte_shl x r (by omega)
   have hx8:=x.toNat_lt
   have H:=Lib.hid (anZ hx hsn)
   clear hx hsn hcells
   have ho:=or_shl (leN (l.take r)) x r (leN_take_lt l r hl) (by omega)
   have HO:=Lib.hid ho
   clear ho
   go_wp2
   go_roundw
   case rel=>exact ⟨r+1,by omega,by go_num,by rw [H.out.2,HO.out],by trivial⟩
   case measure=>simp [intOf]; omega
  ·obtain rfl:r=l.length:=by omega
   rw [List.take_length]
   go_wp2
   go_ret
   exact ⟨rfl,rfl⟩
def rightP (l:List UInt8):Bool:=leN (l.drop (l.length-4)) == sumN (l.take (l.length-4))
theorem rightB_long {l:List UInt8} (h:4≤l.length):rightB l=rightP l:=by
 unfold rightB rightP
 rw [decide_eq_true h,Bool.true_and]
theorem rightB_short {l:List UInt8} (h:¬ 4≤l.length):rightB l=false:=by
 unfold rightB
 rw [decide_eq_false h,Bool.false_and]
theorem nat_beq (a b:Nat):((a:Int) == (b:Int))=(a == b):=by
 by_cases h:a=b
 ·subst h; simp
 ·rw [beq_eq_false_iff_ne.2 h,beq_eq_false_iff_ne.2 (by omega)]
theorem run_slice_from_bs {P:Program} {t e:TypeId} (T:ByteTy P t e) (w:World) {v:Value} {l:List UInt8} (hv:Bs w v l) (k1:IntKind) (lo:Nat) (h:lo≤l.length) :
  ∃ v',(∀ w1,(Instr.slice t v (some (.int k1 (lo:Int))) none none).run P w1 = .ok v' w1)∧Bs w v' (l.drop lo):=by
 obtain ⟨a,cap,rfl,g1,g2,g3,g4⟩:=hv
 refine ⟨sliced a lo l.length cap 1,fun w1=>?_,by simpa using bs_sliced g1 g2 g3 g4 lo l.length h (Nat.le_refl _)⟩
 rw [run_slice_l w1 t a _ cap T.slice' k1 _ (by omega) (by omega),T.elem,T.run_size]
 simp [Result.andThen]
set_option maxHeartbeats 1000000 in
theorem right_any {b:Value} {l:List UInt8} (w:World) (hb:Bs w b l) :
  Calls Tryz.prog 162 #[b] w fun e w'=>e = .returned (.bool (rightB l))∧∃ n,w'=w.drewN n:=by
 have hlen:=hb.len
 by_cases h4:4≤l.length
 ·rw [rightB_long h4]
  obtain ⟨v1,r1,s1⟩:=run_slice_from_bs bt w hb .i64 (l.length-4) (by omega)
  obtain ⟨v2,r2,s2⟩:=run_slice_to_bs bt w hb .i64 (l.length-4) (by omega)
  have hd:(l.drop (l.length-4)).length≤4:=by simp; omega
  rw [show ((l.length-4:Nat):Int)=(l.length:Int)-4 by omega] at r1 r2
  unfold rightP
  rw [← nat_beq]
  generalize l.drop (l.length-4)=p at *
  generalize l.take (l.length-4)=q at *
  obtain ⟨a,cap,rfl,hb⟩:=hb.shape
  have hg:decide ((4:Int)≤(l.length:Int))=true:=decide_eq_true (by omega)
  have hp:(0:Int)≤(l.length:Int)-4:=by omega
  clear h4
  go_enter Tryz.func162,Tryz.ntmps162
  go_wp2_with fail
  go_quiet (first | (go_at_call 198; exact quiet_left (lowest_any _ (s1.drewN _) hd)) | (go_at_call 174; exact quiet_left (sum_any _ (s2.drewN _))))
  go_wp2
  go_ret
  exact ⟨rfl,_,rfl⟩
 ·rw [rightB_short h4]
  have hd:decide ((4:Int)≤(l.length:Int))=false:=decide_eq_false (by omega)
  have hp:(l.length:Int)-4 < 0:=by omega
  clear h4
  obtain ⟨a,cap,rfl,hb⟩:=hb.shape
  go_enter Tryz.func162,Tryz.ntmps162
  go_wp2_with fail
  go_quiet (fail)
  go_wp2
  go_ret
  exact ⟨rfl,_,rfl⟩
theorem leN_four (x0 x1 x2 x3:UInt8):leN [x0,x1,x2,x3]=x0.toNat+x1.toNat*256+x2.toNat*65536+x3.toNat*16777216:=by
 simp only [leN]; omega
theorem ret_bool {a b:Bool} (h:a=b):Ending.returned (.bool a) = .returned (.bool b):=by rw [h]
end Go.Proofs.YtgkofgifoiinkaaGreat
namespace Go.Proofs.YtgkofgifoiinkaaGreat
open Go.RowKit
def four (s:Nat):List UInt8:=[UInt8.ofNat s,UInt8.ofNat (s / 256),UInt8.ofNat (s / 65536),UInt8.ofNat (s / 16777216)]
theorem leN_four_eq (s:Nat) (h:s < 4294967296):leN (four s)=s:=by
 unfold four
 rw [leN_four]
 simp only [UInt8.toNat_ofNat']
 omega
theorem right_sealed (l:List UInt8):rightB (l++four (sumN l))=true:=by
 have h4:(l++four (sumN l)).length-4=l.length:=by simp [four]
 unfold rightB
 rw [h4,List.drop_left,List.take_left,leN_four_eq _ (sumN_lt l)]
 simp [four]
def Turned (l m:List UInt8) (at_ t i:Nat):Prop:=m.length=l.length∧leN m=leN l ^^^ (t % 2 ^ i)*2 ^ at_
theorem Turned.zero (l:List UInt8) (at_ t:Nat):Turned l l at_ t 0:=⟨rfl,by simp [Nat.mod_one]⟩
theorem Turned.skip {l m:List UInt8} {at_ t i:Nat} (h:Turned l m at_ t i) (hb:t / 2 ^ i % 2=0):Turned l m at_ t (i+1):=by
 refine ⟨h.1,?_⟩
 rw [h.2,mod_succ,hb,Nat.zero_mul,Nat.xor_zero]
theorem Turned.turn {l m:List UInt8} {at_ t i:Nat} (h:Turned l m at_ t i) (hb:t / 2 ^ i % 2=1) (hi:(at_+i) / 8 < m.length) :
  Turned l (turnL m ((at_+i) / 8) (2 ^ ((at_+i) % 8))) at_ t (i+1):=by
 have hm:2 ^ ((at_+i) % 8) < 256:=by
  have:2 ^ ((at_+i) % 8)≤2 ^ 7:=Nat.pow_le_pow_right (by decide) (by omega)
  omega
 refine ⟨by rw [turnL_length]; exact h.1,?_⟩
 rw [leN_turn _ _ _ hi hm,h.2,mod_succ,hb,Nat.one_mul,xor_mul, ← Nat.pow_add, ← Nat.pow_add,Nat.xor_assoc]
 congr 3
 omega
end Go.Proofs.YtgkofgifoiinkaaGreat
