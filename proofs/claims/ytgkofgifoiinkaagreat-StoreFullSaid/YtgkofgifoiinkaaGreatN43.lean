/- The document's Same of layer 9: the same pairs?; condition: none. -/
import Derived.Test.YtgkofgifoiinkaaGreatN41
import Derived.Test.YtgkofgifoiinkaaGreatN42
import Derived.Test.YtgkofgifoiinkaaGreatN01
import Derived.Test.YtgkofgifoiinkaaGreatN02
import Derived.Deep.QuietTactic
import Derived.BigQuiet
namespace Go.Proofs.YtgkofgifoiinkaaGreat
open Go.RowKit Go.Maps
def Dsk (w0 w:World) (sb db:Nat) (D:Dv) (P:List Pr) (n m:Nat) (Q:World→Prop):Prop :=
 ∃ T K,Sto w sb db D P n m T∧(∀ q,T q→w0.heap.size≤q)∧Below w0.heap.size w0 w∧(∀ q,K q→q < w.heap.size∧¬ T q)∧Lasts K w Q
def Dead (w0 w:World) (sb db:Nat) (D:Dv) (Q:World→Prop):Prop :=
 ∃ T K,Ded w sb db D T∧(∀ q,T q→w0.heap.size≤q)∧Below w0.heap.size w0 w∧(∀ q,K q→q < w.heap.size∧¬ T q)∧Lasts K w Q
section
variable {w0 w w':World} {sb db n m n' m':Nat} {D D':Dv} {P:List Pr} {Q R:World→Prop} {T T' K:Nat→Prop} {dead:Bool} {A:List Pg→Jn→Nat→Prop}
theorem StT.lt (h:StT w sb db D dead P T A):∀ q,T q→q < w.heap.size:=by
 obtain ⟨_,_,_,_,_,_,_,_,_,h1,rfl,_⟩:=h
 exact h1.lt
theorem StT.below (h:StT w sb db D dead P T A) (hb:Below w.heap.size w w'):StT w' sb db D dead P T A:=by
 obtain ⟨pb,tb,jb,mb,ps,J,g,F,G,h1,e,h2⟩:=h
 exact ⟨pb,tb,jb,mb,ps,J,g,F,G,h1.below hb,e,h2⟩
theorem StT.dev (h:StT w sb db D dead P T A):∃ F,Dev w db D F∧∀ q,F q→T q:=by
 obtain ⟨pb,tb,jb,mb,ps,J,g,F,G,h1,rfl,h2⟩:=h
 exact ⟨F,h1.b.dev,fun q hq=>.inl (.inr (.inr (.inl hq)))⟩
theorem lasts_step (hl:Lasts K w Q) (hk:∀ q,K q→q < w.heap.size∧¬ T q) (hs:Step T w w' T'):Lasts K w' Q∧∀ q,K q→q < w'.heap.size∧¬ T' q :=
 ⟨fun W hW=>hl W fun q hq=>(hW q hq).trans (hs.only.block q (hk q hq).1 (hk q hq).2),fun q hq=>⟨Nat.lt_of_lt_of_le (hk q hq).1 hs.size,fun ht=>by
  rcases hs.more q ht with h1 | h1
  ·exact (hk q hq).2 h1
  ·have:=(hk q hq).1; omega⟩⟩
theorem under_step (hT:∀ q,T q→w0.heap.size≤q) (hb:Below w0.heap.size w0 w) (hs:Step T w w' T'):(∀ q,T' q→w0.heap.size≤q)∧Below w0.heap.size w0 w' :=
 ⟨fun q hq=>(hs.more q hq).elim (hT q) fun h=>Nat.le_trans hb.size h,hb.trans (hs.only.below hb.size hT)⟩
theorem Dsk.now (h:Dsk w0 w sb db D P n m Q):Q w:=let ⟨_,_,_,_,_,_,h⟩:=h; h w fun _ _=>rfl
theorem Dsk.under (h:Dsk w0 w sb db D P n m Q):Below w0.heap.size w0 w:=let ⟨_,_,_,_,h,_⟩:=h; h
theorem Dsk.later (h:Dsk w0 w sb db D P n m Q) (hb:Below w.heap.size w w'):Dsk w0 w' sb db D P n m Q:=by
 obtain ⟨T,K,h1,h2,h3,h4,h5⟩:=h
 obtain ⟨k1,k2⟩:=lasts_step h5 h4 (Step.of_below hb T)
 exact ⟨T,K,StT.below h1 hb,h2,h3.trans (hb.mono h3.size),k2,k1⟩
theorem Dsk.forget (h:Dsk w0 w sb db D P n m Q) (hr:∀ W,Q W→R W):Dsk w0 w sb db D P n m R:=by
 obtain ⟨T,K,h1,h2,h3,h4,h5⟩:=h
 exact ⟨T,K,h1,h2,h3,h4,fun W hW=>hr W (h5 W hW)⟩
theorem Dsk.more (h:Dsk w0 w sb db D P n m Q) (hn:n≤n') (hm:m≤m'):Dsk w0 w sb db D P n' m' Q:=by
 obtain ⟨T,K,⟨pb,tb,jb,mb,ps,J,g,F,G,h1,e,h2⟩,h3⟩:=h
 exact ⟨T,K,⟨pb,tb,jb,mb,ps,J,g,F,G,h1,e,h2.more hn hm⟩,h3⟩
theorem Dsk.with (h:Dsk w0 w sb db D P n m Q) (hb:Below w.heap.size w w') {S:Nat→Prop} (hs:Lasts S w' R) (hS:∀ q,S q→w.heap.size≤q∧q < w'.heap.size):Dsk w0 w' sb db D P n m (fun W=>Q W∧R W):=by
 obtain ⟨T,K,h1,h2,h3,h4,h5⟩:=h
 obtain ⟨k1,k2⟩:=lasts_step h5 h4 (Step.of_below hb T)
 refine ⟨T,fun q=>K q∨S q,StT.below h1 hb,h2,h3.trans (hb.mono h3.size),fun q hq=>?_,fun W hW=>⟨k1 W fun q hq=>hW q (.inl hq),hs W fun q hq=>hW q (.inr hq)⟩⟩
 rcases hq with hq | hq
 ·exact k2 q hq
 ·exact ⟨(hS q hq).2,fun ht=>by have:=StT.lt h1 q ht; have:=(hS q hq).1; omega⟩
theorem Dsk.old (h:Dsk w0 w sb db D P n m Q) {S:Nat→Prop} (hs:Lasts S w0 R) (hS:∀ q,S q→q < w0.heap.size):Dsk w0 w sb db D P n m (fun W=>Q W∧R W):=by
 obtain ⟨T,K,h1,h2,h3,h4,h5⟩:=h
 refine ⟨T,fun q=>K q∨S q,h1,h2,h3,fun q hq=>?_,fun W hW=>⟨h5 W fun q hq=>hW q (.inl hq),hs W fun q hq=>(hW q (.inr hq)).trans (h3.block q (hS q hq))⟩⟩
 rcases hq with hq | hq
 ·exact h4 q hq
 ·exact ⟨Nat.lt_of_lt_of_le (hS q hq) h3.size,fun ht=>by have:=h2 q ht; have:=hS q hq; omega⟩
theorem Dsk.own (h:Dsk w0 w sb db D P n m Q):Own w0 w db D Q:=by
 obtain ⟨T,K,h1,h2,h3,h4,h5⟩:=h
 obtain ⟨F,k1,k2⟩:=StT.dev h1
 exact ⟨F,K,k1,fun q hq=>h2 q (k2 q hq),h3,fun q hq=>⟨(h4 q hq).1,fun hf=>(h4 q hq).2 (k2 q hf)⟩,h5⟩
theorem Dead.own (h:Dead w0 w sb db D Q):Own w0 w db D Q:=by
 obtain ⟨T,K,⟨P,h1⟩,h2,h3,h4,h5⟩:=h
 obtain ⟨F,k1,k2⟩:=StT.dev h1
 exact ⟨F,K,k1,fun q hq=>h2 q (k2 q hq),h3,fun q hq=>⟨(h4 q hq).1,fun hf=>(h4 q hq).2 (k2 q hf)⟩,h5⟩
theorem dsk_new (h:Own w0 w db D Q) (ho:D.on=true) (hlf:D.left < 0) (hu:Upto D n) (hn:n≤700000) (hlen:442≤D.bk.length) :
  Calls Tryz.prog 10 #[ptr db] w fun e w'=>∃ sb D',e = .returned (.tuple #[ptr sb,err 0])∧Dsk w0 w' sb db D' [] (n+400) 1 Q∧D'.left < 0∧D'.bk.length=D.bk.length:=by
 obtain ⟨F,K,h1,h2,h3,h4,h5⟩:=h
 refine (stnew_any h1 ho hlf hu hn hlen).mono ?_
 rintro e w' ⟨sb,D',T,rfl,k1,k2,k3,k4⟩
 obtain ⟨q1,q2⟩:=lasts_step h5 h4 k4
 obtain ⟨q3,q4⟩:=under_step h2 h3 k4
 exact ⟨sb,D',rfl,⟨T,K,k1,q3,q4,q2,q1⟩,k2,k3⟩
theorem dsk_open (h:Own w0 w db D Q) (ho:D.on=true) (hu:Upto D n) (hod:OnDisk D.bk P m) :
  Calls Tryz.prog 19 #[ptr db] w fun e w'=>∃ sb,e = .returned (.tuple #[ptr sb,err 0])∧Dsk w0 w' sb db D P n m Q:=by
 obtain ⟨F,K,h1,h2,h3,h4,h5⟩:=h
 refine (stopen_any h1 ho hu hod).mono ?_
 rintro e w' ⟨sb,T,rfl,k1,k4⟩
 obtain ⟨q1,q2⟩:=lasts_step h5 h4 k4
 obtain ⟨q3,q4⟩:=under_step h2 h3 k4
 exact ⟨sb,rfl,T,K,k1,q3,q4,q2,q1⟩
def LastsD (w0:World) (sb db:Nat) (D:Dv) (P P':List Pr) (n m:Nat) (Q:World→Prop) (e:Ending) (w':World):Prop :=
 (e = .returned (err 0)∧∃ D',Dsk w0 w' sb db D' P' n m Q∧(D.left < 0→D'.left < 0)∧D'.bk.length=D.bk.length) ∨
 (e = .returned (err 8)∧∃ D',Dead w0 w' sb db D' Q∧¬ D.left < 0∧Gone2 D' P P' n m∧D'.bk.length=D.bk.length)
theorem lastsD {P':List Pr} {e:Ending} (h:LastsC w sb db D P P' n m T e w') (h2:∀ q,T q→w0.heap.size≤q) (h3:Below w0.heap.size w0 w) (h4:∀ q,K q→q < w.heap.size∧¬ T q) (h5:Lasts K w Q):LastsD w0 sb db D P P' n m Q e w':=by
 rcases h with ⟨rfl,D',T',k1,k2,k3,k4⟩ | ⟨rfl,D',T',k1,k2,k3,k4,k5⟩
 ·obtain ⟨q1,q2⟩:=lasts_step h5 h4 k2
  obtain ⟨q3,q4⟩:=under_step h2 h3 k2
  exact .inl ⟨rfl,D',⟨T',K,k1,q3,q4,q2,q1⟩,k3,k4⟩
 ·obtain ⟨q1,q2⟩:=lasts_step h5 h4 k2
  obtain ⟨q3,q4⟩:=under_step h2 h3 k2
  exact .inr ⟨rfl,D',⟨T',K,k1,q3,q4,q2,q1⟩,k3,k4,k5⟩
theorem dsk_check (h:Dsk w0 w sb db D P n m Q) (hn:n≤900000) (hm:m+1≤4000000):Calls Tryz.prog 16 #[ptr sb] w (LastsD w0 sb db D P P (n+4003) (m+1) Q):=by
 obtain ⟨T,K,h1,h2,h3,h4,h5⟩:=h
 exact (scheck_any h1 hn hm).mono fun e w' hl=>lastsD hl h2 h3 h4 h5
def CommitsD (w0:World) (sb db:Nat) (D:Dv) (P:List Pr) (l:List Wr) (n m:Nat) (Q:World→Prop) (e:Ending) (w':World):Prop :=
 (1000 < l.length∧e = .returned (err 6)∧Dsk w0 w' sb db D P n m Q) ∨
 (l.length≤1000∧¬ ComOk l∧e = .returned (err 1)∧Dsk w0 w' sb db D P n m Q) ∨
 (l.length≤1000∧ComOk l∧roomN D.bk.length < bytesP (doneC P l)∧e = .returned (err 7)∧Dsk w0 w' sb db D P n m Q) ∨
 (l.length≤1000∧ComOk l∧bytesP (doneC P l)≤roomN D.bk.length∧LastsD w0 sb db D P (doneC P l) (n+4500) (m+2) Q e w')
theorem dsk_commit {lv:Value} {l:List Wr} (h:Dsk w0 w sb db D P n m Q) (hb:Below w.heap.size w w') (hn:n≤900000) (hm:m+2≤4000000) (hl:∀ T:Nat→Prop,(∀ q,T q→q < w.heap.size)→Rd kdWr w' T lv l) (hln:l.length≤1000000) :
  Calls Tryz.prog 13 #[ptr sb,lv] w' (CommitsD w0 sb db D P l n m Q):=by
 have h0:=h.later hb
 obtain ⟨T,K,h1,h2,h3,h4,h5⟩:=h
 obtain ⟨q1,q2⟩:=lasts_step h5 h4 (Step.of_below hb T)
 refine (scommit_any (StT.below h1 hb) hn hm (hl T (StT.lt h1)) hln).mono ?_
 rintro e w2 (⟨k1,k2,k3⟩ | ⟨k1,k2,k3,k4⟩ | ⟨k1,k2,k3,k4,k5⟩ | ⟨k1,k2,k3,k4⟩)
 ·exact .inl ⟨k1,k2,h0.later k3⟩
 ·exact .inr (.inl ⟨k1,k2,k3,h0.later k4⟩)
 ·exact .inr (.inr (.inl ⟨k1,k2,k3,k4,h0.later k5⟩))
 ·exact .inr (.inr (.inr ⟨k1,k2,k3,lastsD k4 h2 (h3.trans (hb.mono h3.size)) q2 q1⟩))
theorem Dsk.parts (h:Dsk w0 w sb db D P n m Q):okUp P∧P.length≤100000∧∃ dv pv tv jv g mb,StC w sb dv pv tv jv g mb (bytesP P:Nat) false∧SMap w mb P:=by
 obtain ⟨T,K,⟨pb,tb,jb,mb,ps,J,g,F,G,h1,e,h2⟩,h3⟩:=h
 exact ⟨h2.ok,h2.few,_,_,_,_,_,_,h1.b.top,h1.b.map⟩
theorem dsk_get {kv:Value} {k:Bytes} (h:Dsk w0 w sb db D P n m Q) (hk:Bs w kv k) (hl:k.length≤maxLen):Calls Tryz.prog 29 #[ptr sb,kv] w (Told w (lookP P k)):=by
 obtain ⟨h1,h2,_,_,_,_,_,_,h3,h4⟩:=h.parts
 exact sget_any h3 h4 h1.1 hk hl
theorem dsk_bytes (h:Dsk w0 w sb db D P n m Q):Calls Tryz.prog 26 #[ptr sb] w fun e w'=>e = .returned (.int .i64 (bytesP P:Nat))∧w=w':=by
 obtain ⟨h1,h2,_,_,_,_,_,_,h3,h4⟩:=h.parts
 exact sbytes_any h3
theorem dsk_scan {fv tv':Value} {f t:Bytes} {S:Nat→Prop} (h:Dsk w0 w sb db D P n m Q) (hS:∀ q,S q→q < w.heap.size) (hf:Bs w fv f) (ht:Bs w tv' t) :
  Calls Tryz.prog 20 #[ptr sb,fv,tv'] w fun e w'=>∃ v,e = .returned (.tuple #[v,err 0])∧Rd kdPr w' S v (inSpan f t P)∧Below w.heap.size w w':=by
 obtain ⟨h1,h2,_,_,_,_,_,_,h3,h4⟩:=h.parts
 exact sscan_any h3 h4 h1.1 (by omega) hS hf ht
end
section
variable {w:World} {sb g mb:Nat} {dv pv tv jv:Value} {bn:Int}
end
end Go.Proofs.YtgkofgifoiinkaaGreat
namespace Go.Proofs.YtgkofgifoiinkaaGreat
open Go.RowKit
theorem ret_i64 {x y:Int} (h:x=y):Ending.returned (.int .i64 y) = .returned (.int .i64 x):=by rw [h]
set_option maxHeartbeats 1000000 in
theorem refOrder_any {a b:Value} {l m:List UInt8} (w:World) (ha:Bs w a l) (hb:Bs w b m) (hl:l.length≤1073741824) (hm:m.length≤1073741824) :
  Calls Tryz.prog 67 #[a,b] w fun e w'=>e = .returned (.int .i64 (Lib.compareBytes l m))∧Below w.heap.size w w':=by
 obtain ⟨a1,cap1,rfl,ha⟩:=ha.shape
 obtain ⟨a2,cap2,rfl,hb⟩:=hb.shape
 go_enter Tryz.func67,Tryz.ntmps67
 go_wp2_with fail
 go_loopw [5] (fun i wr=>∃ r:Nat,i = .int .i64 r∧r≤l.length∧r≤m.length∧l.take r=m.take r∧Below w.heap.size w wr) (fun i _=>l.length-(intOf i).toNat)
 case atStart=>exact ⟨0,rfl,by omega,by omega,by simp,Below.refl _ _⟩
 case round =>
  obtain ⟨r,rfl,hr1,hr2,heq,hbr⟩:=hrel
  have Heq:=Lib.hid heq
  clear heq
  by_cases h1:r < l.length
  ·by_cases h2:r < m.length
   ·obtain ⟨o1,p1,c1,e1,q1,hlt1,hc1⟩:=ha.open (by omega)
    obtain ⟨o2,p2,c2,e2,q2,hlt2,hc2⟩:=hb.open (by omega)
    simp only [Value.slice.injEq] at e1 e2
    obtain ⟨rfl,_,rfl⟩:=e1
    obtain ⟨rfl,_,rfl⟩:=e2
    obtain ⟨x,hx⟩:∃ x,l[r]? = some x:=⟨_,List.getElem?_eq_getElem h1⟩
    obtain ⟨y,hy⟩:∃ y,m[r]? = some y:=⟨_,List.getElem?_eq_getElem h2⟩
    have hcx:=(hbr.cell (p:=⟨o1,p1+r,none⟩) (by exact hlt1)).trans (hc1 r x hx)
    have hcy:=(hbr.cell (p:=⟨o2,p2+r,none⟩) (by exact hlt2)).trans (hc2 r y hy)
    have Hx:=Lib.hid hx
    have Hy:=Lib.hid hy
    clear hx hy hc1 hc2
    rcases Nat.lt_trichotomy x.toNat y.toNat with h | h | h
    ·go_wp2
     go_quiet (fail)
     go_wp2
     go_ret
     exact ⟨ret_i64 (cmp_lt Heq.out Hx.out Hy.out h),below_drewN hbr _⟩
    ·have n1:¬ (x.toNat:Int) < y.toNat:=by omega
     have n2:¬ (y.toNat:Int) < x.toNat:=by omega
     have Ht:=Lib.hid h
     clear h
     go_wp2
     go_quiet (fail)
     go_wp2
     go_quiet (fail)
     go_wp2
     go_roundw
     case rel=>exact ⟨r+1,by go_num,by omega,by omega,take_more Heq.out Hx.out Hy.out Ht.out,below_drewN hbr _⟩
     case measure=>simp [intOf]; omega
    ·have n1:¬ (x.toNat:Int) < y.toNat:=by omega
     go_wp2
     go_quiet (fail)
     go_wp2
     go_quiet (fail)
     go_wp2
     go_ret
     exact ⟨ret_i64 (cmp_gt Heq.out Hx.out Hy.out h),below_drewN (below_drewN hbr _) _⟩
   ·obtain rfl:r=m.length:=by omega
    have hf:Hid (Lib.compareBytes l m=1):=Lib.hid (cmp_long Heq.out h1)
    go_wp2
    go_ret
    exact ⟨ret_i64 hf.out,hbr⟩
  ·obtain rfl:r=l.length:=by omega
   rcases Nat.lt_or_ge l.length m.length with h | h
   ·have hf:Hid (Lib.compareBytes l m = -1):=Lib.hid (cmp_short Heq.out h)
    go_wp2
    go_ret
    exact ⟨ret_i64 hf.out,hbr⟩
   ·have hf:Hid (Lib.compareBytes l m=0):=Lib.hid (cmp_same Heq.out (by omega))
    have n1:¬ (l.length:Int) < m.length:=by omega
    have n2:¬ (m.length:Int) < l.length:=by omega
    go_wp2
    go_ret
    exact ⟨ret_i64 hf.out,hbr⟩
set_option maxHeartbeats 400000 in
theorem same_any {a b:Value} {l m:List UInt8} (w:World) (ha:Bs w a l) (hb:Bs w b m) (hl:l.length≤1073741824) (hm:m.length≤1073741824) :
  Calls Tryz.prog 66 #[a,b] w fun e w'=>e = .returned (.bool (Lib.compareBytes l m == 0))∧Below w.heap.size w w':=by
 go_enter Tryz.func66,Tryz.ntmps66
 go_wp2_with fail
 refine (refOrder_any _ ha hb hl hm).mono ?_
 rintro e w1 ⟨rfl,hb1⟩
 go_wp2
 go_ret
 exact ⟨rfl,hb1⟩
end Go.Proofs.YtgkofgifoiinkaaGreat
namespace Go.Proofs.YtgkofgifoiinkaaGreat
open Go.RowKit
def wrV (k v:Value) (gone:Bool):Value:=.agg #[k,v, .bool gone]
theorem load_write {w:World} {g:Nat} {ka va:Option Addr} {kn kc vn vc:Nat} {b:Bool} (h:Cel w g [.slice ka kn kc, .slice va vn vc, .bool b] 61):(loadVar 61 ⟨g,0,none⟩).run Tryz.prog w = .ok (.agg #[.slice ka kn kc, .slice va vn vc, .bool b]) w:=by
 have c0:w.cell? ⟨g,0,none⟩=some (.slice ka kn kc):=by rw [h.cell]; rfl
 have c1:w.cell? ⟨g,1,none⟩=some (.slice va vn vc):=by rw [h.cell]; rfl
 have c2:w.cell? ⟨g,2,none⟩=some (.bool b):=by rw [h.cell]; rfl
 clear h
 go_simp
def Writes (w:World) (k v:Bytes) (e:Ending) (w':World):Prop:=∃ kb kc vb vc,e = .returned (wrV (.slice (some ⟨kb,0,none⟩) k.length kc) (.slice (some ⟨vb,0,none⟩) v.length vc) false)∧Bs w' (.slice (some ⟨kb,0,none⟩) k.length kc) k∧Bs w' (.slice (some ⟨vb,0,none⟩) v.length vc) v∧w.heap.size≤kb∧w.heap.size≤vb∧Below w.heap.size w w'
set_option maxHeartbeats 1000000 in
theorem w_any (w:World) (k v:Bytes) (hk:k.length≤1000) (hv:v.length≤1000):Calls Tryz.prog 30 #[strV k,strV v] w (Writes w k v):=by
 obtain ⟨w1,hw1⟩:∃ w1,w1=w.alloc (.cells #[.slice none 0 0, .slice none 0 0, .bool false] 61):=⟨_,rfl⟩
 have hb1:Below w.heap.size w w1:=by rw [hw1]; exact (Below.refl _ _).alloc (Nat.le_refl _) _
 have hc1:Cel w1 w.heap.size [.slice none 0 0, .slice none 0 0, .bool false] 61:=by rw [hw1]; exact Cel.new w _ _
 obtain ⟨kc,w2,hr2,hs2,hb2⟩:=str_bytes w1 k (by unfold maxLen; omega)
 obtain ⟨vc,w3,hr3,hs3,hb3⟩:=str_bytes w2 v (by unfold maxLen; omega)
 have hb23:=hb2.trans (hb3.mono hb2.size)
 have hc3:=hc1.below hb23 hc1.lt
 have d0:w3.cell? ⟨w.heap.size,0,none⟩=some (.slice none 0 0):=hc3.cell 0
 have d1:w3.cell? ⟨w.heap.size,1,none⟩=some (.slice none 0 0):=hc3.cell 1
 have d2:w3.cell? ⟨w.heap.size,2,none⟩=some (.bool false):=hc3.cell 2
 have f0:=hc3.frozen 0
 have f1:=hc3.frozen 1
 have f2:=hc3.frozen 2
 obtain ⟨kn,hkn⟩:∃ kn,kn=k.length:=⟨_,rfl⟩
 obtain ⟨vn,hvn⟩:∃ vn,vn=v.length:=⟨_,rfl⟩
 unfold Writes
 rw [← hkn] at hr2 hs2 ⊢
 rw [← hvn] at hr3 hs3 ⊢
 have HH:=Lib.hid (anZ hc3 (anZ hs2 (anZ hs3 (anZ hb1 (anZ hb2 (anZ hb3 hb23))))))
 rw [hw1] at hr2
 have HW:=Lib.hid hw1
 clear hb1 hc1 hs2 hb2 hs3 hb3 hb23 hc3 hkn hvn hw1
 go_enter Tryz.func30,Tryz.ntmps30
 go_wp2
 obtain ⟨hc3,hs2,hs3,hb1,hb2,hb3,hb23⟩:=HH.out
 have e1:w1.heap.size=w.heap.size+1:=by rw [HW.out]; simp
 have k3:=((hc3.set 0 (.slice (some ⟨w.heap.size+1,0,none⟩) kn kc)).set 1 (.slice (some ⟨w2.heap.size,0,none⟩) vn vc)).set 2 (.bool false)
 refine bodyPost_ret (sresults_cell rfl rfl (load_write k3)) rfl ?_
 have hbw:Below w.heap.size w w3:=hb1.trans (hb23.mono hb1.size)
 have hset:Below w3.heap.size w3 w3:=Below.refl _ _
 have ho:Only (fun q=>q=w.heap.size) w3 (((w3.setCell ⟨w.heap.size,0,none⟩ (.slice (some ⟨w.heap.size+1,0,none⟩) kn kc)).setCell ⟨w.heap.size,1,none⟩ (.slice (some ⟨w2.heap.size,0,none⟩) vn vc)).setCell ⟨w.heap.size,2,none⟩ (.bool false)) :=
  (((Only.refl (fun q=>q=w.heap.size) w3).setCell (p:=⟨w.heap.size,0,none⟩) (.inl rfl) _).setCell (p:=⟨w.heap.size,1,none⟩) (.inl rfl) _).setCell (p:=⟨w.heap.size,2,none⟩) (.inl rfl) _
 rw [e1] at hs2
 have h2:=hb2.size
 refine ⟨w.heap.size+1,kc,w2.heap.size,vc,rfl,(hs2.below hb3).only ho (fun q hq e=>?_),hs3.only ho (fun q hq e=>?_),by omega,by omega,hbw.trans (ho.below hbw.size (fun q e=>by omega))⟩
 ·cases hq
  have e3:w.heap.size+1=w.heap.size:=e
  omega
 ·cases hq
  have e3:w2.heap.size=w.heap.size:=e
  omega
end Go.Proofs.YtgkofgifoiinkaaGreat
namespace Go.Proofs.YtgkofgifoiinkaaGreat
open Go.RowKit
section
variable {w0 w:World} {db n:Nat} {D:Dv} {Q:World→Prop}
theorem fresh_loadS {k:Nat} (h:2≤k):loadV (fresh k)=(0,[],4):=by
 have h0:stAt (fresh k) 0=noughts:=(stAt_of (x:=⟨noughts,[]⟩) (by show (List.replicate k _)[0]? = _; rw [List.getElem?_replicate,if_pos (by omega)])).trans rfl
 have h1:stAt (fresh k) 1=noughts:=(stAt_of (x:=⟨noughts,[]⟩) (by show (List.replicate k _)[1]? = _; rw [List.getElem?_replicate,if_pos (by omega)])).trans rfl
 unfold loadV
 rw [h0,h1,rootOf_noughts,rootOf_noughts,if_neg (by show ¬ true=false; decide),if_neg (by show ¬ (List.replicate k _).length < 2; rw [List.length_replicate]; omega)]
 rfl
theorem own_open_none (h:Own w0 w db D Q) (ho:D.on=true) (hlen:442≤D.bk.length) (hv:loadV D=(0,[],4)):Calls Tryz.prog 19 #[ptr db] w fun e w'=>e = .returned (.tuple #[.pointer none,err 4])∧Own w0 w' db D Q∧Below w.heap.size w w':=by
 have h0:=h
 obtain ⟨F,K,h1,h2,h3,h4,h5⟩:=h
 refine (stopen_none h1 ho hlen hv (by decide) (by decide)).mono ?_
 rintro e w' ⟨rfl,hb⟩
 exact ⟨rfl,h0.later hb,hb⟩
end
end Go.Proofs.YtgkofgifoiinkaaGreat
namespace Go.Proofs.YtgkofgifoiinkaaGreat
open Go.RowKit Go.Maps
section
variable {w0 w w' w1:World} {sb db n m:Nat} {D:Dv} {P:List Pr} {Q:World→Prop}
def NewB (w w1:World) (v:Value) (l:Bytes):Prop:=Bs w1 v l∧∀ q,v.ownBlock=some q→w.heap.size≤q
theorem NewB.bsf {v:Value} {l:Bytes} (h:NewB w w1 v l) {T:Nat→Prop} (hT:∀ q,T q→q < w.heap.size):Bsf w1 T v l:=⟨h.1,fun _ q hq ht=>by have:=h.2 q hq; have:=hT q ht; omega⟩
theorem NewB.below {v:Value} {l:Bytes} (h:NewB w w1 v l) (hb:Below w1.heap.size w1 w'):NewB w w' v l:=⟨h.1.below hb,h.2⟩
theorem NewB.nil (w w1:World):NewB w w1 (.slice none 0 0) []:=⟨Bs.nil w1,fun q h=>by cases h⟩
theorem two_rd {ka kv ca cv:Option Addr} {kn kc vn vc cn cc dn dc:Nat} {x y:Wr} (hw:w.heap.size≤w1.heap.size) (h1:NewB w w1 (.slice ka kn kc) x.key) (h2:NewB w w1 (.slice kv vn vc) x.val) (h3:NewB w w1 (.slice ca cn cc) y.key) (h4:NewB w w1 (.slice cv dn dc) y.val)
  {T:Nat→Prop} (hT:∀ q,T q→q < w.heap.size) :
  Rd kdWr (w1.alloc (.cells #[.slice ka kn kc, .slice kv vn vc, .bool x.gone, .slice ca cn cc, .slice cv dn dc, .bool y.gone] 61)) T (.slice (some ⟨w1.heap.size,0,none⟩) 2 2) [x,y]:=by
 have:=rd_lit kdWr w1 61 T (fun q hq=>Nat.lt_of_lt_of_le (hT q hq) hw) [⟨⟨ka,kn,kc⟩,⟨kv,vn,vc⟩,x⟩,⟨⟨ca,cn,cc⟩,⟨cv,dn,dc⟩,y⟩]
  #[.slice ka kn kc, .slice kv vn vc, .bool x.gone, .slice ca cn cc, .slice cv dn dc, .bool y.gone] rfl (fun t ht=>?_) (by simp) (n:=2) rfl
 ·exact this
 ·simp only [List.mem_cons,List.not_mem_nil,or_false] at ht
  rcases ht with rfl | rfl
  ·exact ⟨h1.bsf hT,h2.bsf hT⟩
  ·exact ⟨h3.bsf hT,h4.bsf hT⟩
theorem commit_two {lv:Value} {l:List Wr} (h:Dsk w0 w sb db D P n m Q) (hb:Below w.heap.size w w') (hn:n≤900000) (hm:m+2≤4000000) (hl:∀ T:Nat→Prop,(∀ q,T q→q < w.heap.size)→Rd kdWr w' T lv l)
  (hln:l.length≤1000) (hok:ComOk l) (hr:bytesP (doneC P l)≤roomN D.bk.length) (hlf:D.left < 0) :
  Calls Tryz.prog 13 #[ptr sb,lv] w' fun e w2=>e = .returned (err 0)∧∃ D',Dsk w0 w2 sb db D' (doneC P l) (n+4500) (m+2) Q∧D'.left < 0∧D'.bk.length=D.bk.length:=by
 refine (dsk_commit h hb hn hm hl (by omega)).mono ?_
 rintro e w2 (⟨k1,_⟩ | ⟨_,k2,_⟩ | ⟨_,_,k3,_⟩ | ⟨_,_,_,(⟨rfl,D',h1,h2,h3⟩ | ⟨_,_,_,k4,_⟩)⟩)
 ·omega
 ·exact absurd hok k2
 ·omega
 ·exact ⟨rfl,D',h1,h2 hlf,h3⟩
 ·exact absurd hlf k4
theorem commit_not {lv:Value} {l:List Wr} (h:Dsk w0 w sb db D P n m Q) (hb:Below w.heap.size w w') (hn:n≤900000) (hm:m+2≤4000000) (hl:∀ T:Nat→Prop,(∀ q,T q→q < w.heap.size)→Rd kdWr w' T lv l)
  (hln:l.length≤1000) (hok:¬ ComOk l):Calls Tryz.prog 13 #[ptr sb,lv] w' fun e w2=>e = .returned (err 1)∧Dsk w0 w2 sb db D P n m Q:=by
 refine (dsk_commit h hb hn hm hl (by omega)).mono ?_
 rintro e w2 (⟨k1,_⟩ | ⟨_,_,rfl,h1⟩ | ⟨_,k2,_⟩ | ⟨_,k2,_⟩)
 ·omega
 ·exact ⟨rfl,h1⟩
 ·exact absurd k2 hok
 ·exact absurd k2 hok
theorem Dsk.lv (h:Dsk w0 w sb db D P n m Q):∃ ps J g,Lv D ps J g P n m:=by
 obtain ⟨T,K,⟨pb,tb,jb,mb,ps,J,g,F,G,h1,rfl,hL⟩,_⟩:=h
 exact ⟨ps,J,g,hL⟩
theorem Dsk.on (h:Dsk w0 w sb db D P n m Q):D.on=true:=let ⟨_,_,_,h⟩:=h.lv; h.on
theorem Dsk.upto (h:Dsk w0 w sb db D P n m Q):Upto D n:=by
 obtain ⟨_,_,_,_,_,_,_,_,_,_,_,_,h4,_⟩:=h.lv
 exact h4.upto
theorem Dsk.disk (h:Dsk w0 w sb db D P n m Q) (ps:List Int):OnDisk (comes D.bk ps) P m:=by
 obtain ⟨_,_,g,pg,a,s,P0,pgs,C,h1,_,_,_,_,h6,h7⟩:=h.lv
 exact ⟨g,pg,a,s,P0,pgs,C,h1.spare (apart_comes _ ps) (clean_comes _ _),h6,h7⟩
theorem Dsk.still (h:Dsk w0 w sb db D P n m Q):OnDisk D.bk P m:=by
 obtain ⟨_,_,g,pg,a,s,P0,pgs,C,h1,_,_,_,_,h6,h7⟩:=h.lv
 exact ⟨g,pg,a,s,P0,pgs,C,h1,h6,h7⟩
theorem upto_comes {bk:List Bk} {ps:List Int} {on:Bool} {left:Int} (n:Nat):Upto ⟨comes bk ps,on,left⟩ n:=fun k x hx=>by
 rw [clean_comes _ _ k x hx]
 exact Nat.zero_le _
end
end Go.Proofs.YtgkofgifoiinkaaGreat
namespace Go.Proofs.YtgkofgifoiinkaaGreat
open Go.RowKit
theorem cmp_zero {l m:Bytes}:(Lib.compareBytes l m == 0)=decide (l=m):=by
 have h:∀ l m:Bytes,Lib.compareBytes l m=0↔l=m:=by
  intro l
  induction l with
  | nil=>intro m; cases m <;> simp [Lib.compareBytes]
  | cons a l ih =>
   intro m
   cases m with
   | nil=>simp [Lib.compareBytes]
   | cons b m =>
    rw [Lib.compareBytes]
    by_cases h1:a < b
    ·have:a≠b:=fun e=>by subst e; exact absurd h1 (UInt8.lt_irrefl _)
     simp [h1,this]
    ·by_cases h2:b < a
     ·have:a≠b:=fun e=>by subst e; exact absurd h2 (UInt8.lt_irrefl _)
      simp [h1,h2,this]
     ·have:a=b:=UInt8.le_antisymm (by simpa using h2) (by simpa using h1)
      simp [this,ih]
 rw [Bool.eq_iff_iff]
 simp [h]
set_option maxRecDepth 100000 in
set_option maxHeartbeats 4000000 in
theorem psame_any {lv xv:Value} {ls ms:List Pr} {S:Nat→Prop} (w:World) (h:Rd kdPr w S lv ls) (hm:Rd kdPr w S xv ms) (hl:∀ p∈ls,p.1.length≤1000∧p.2.length≤1000) (hl2:∀ p∈ms,p.1.length≤1000∧p.2.length≤1000):Calls Tryz.prog 21 #[lv,xv] w fun e w'=>e = .returned (.bool (decide (ls=ms)))∧Below w.heap.size w w':=by
 obtain ⟨la,lc,rfl,_⟩:=h.shape
 obtain ⟨xa,xc,rfl,_⟩:=hm.shape
 have hle:=h.len
 have hlm:=hm.len
 by_cases hlen:ls.length=ms.length
 ·obtain ⟨n,hn⟩:∃ n,n=ls.length:=⟨_,rfl⟩
  rw [← hlen] at hm hlm ⊢
  rw [← hn] at h hm hle hlm ⊢
  have HH:=Lib.hid (anZ h (anZ hm (anZ hn (anZ hlen (anZ hl hl2)))))
  clear h hm hn hlen hl hl2
  go_enter Tryz.func21,Tryz.ntmps21
  go_wp2
  go_loopw [5] (fun i wr=>∃ r:Nat,r≤n∧i = .int .i64 (r:Int)∧ls.take r=ms.take r∧Below w.heap.size w wr) (fun i _=>n-(intOf i).toNat)
  case atStart=>exact ⟨0,Nat.zero_le _,rfl,rfl,Below.refl _ _⟩
  case round =>
   obtain ⟨r,hr,rfl,ht,hb⟩:=hrel
   obtain ⟨h,hm,hn,hlen,hl,hl2⟩:=HH.out
   by_cases hlt:r < n
   ·obtain ⟨p,hp⟩:∃ p,ls[r]? = some p:=⟨_,List.getElem?_eq_getElem (by omega)⟩
    obtain ⟨q,hq⟩:∃ q,ms[r]? = some q:=⟨_,List.getElem?_eq_getElem (by omega)⟩
    obtain ⟨g,o,cap,pa,pc,va,vc,e0,hg,k0,k1,bk,bv⟩:=(h.step (Step.of_below hb S)).par hp
    obtain ⟨g',o',cap',pa',pc',va',vc',e0',hg',k0',k1',bk',bv'⟩:=(hm.step (Step.of_below hb S)).par hq
    simp only [Value.slice.injEq] at e0 e0'
    obtain ⟨rfl, -,rfl⟩:=e0
    obtain ⟨rfl, -,rfl⟩:=e0'
    have hil:(r:Int) < (n:Int):=by omega
    have hr0:(0:Int)≤(r:Int):=by omega
    have hpl:=hl p (List.mem_of_getElem? hp)
    have hql:=hl2 q (List.mem_of_getElem? hq)
    obtain ⟨p1,hp1⟩:∃ p1,p1=p.1.length:=⟨_,rfl⟩
    obtain ⟨p2,hp2⟩:∃ p2,p2=p.2.length:=⟨_,rfl⟩
    obtain ⟨q1,hq1⟩:∃ q1,q1=q.1.length:=⟨_,rfl⟩
    obtain ⟨q2,hq2⟩:∃ q2,q2=q.2.length:=⟨_,rfl⟩
    rw [← hp1] at k0 bk
    rw [← hp2] at k1 bv
    rw [← hq1] at k0' bk'
    rw [← hq2] at k1' bv'
    have hcl:=fun {a:Addr} {u:Value} {W:World} (hW:Below wr.heap.size wr W) (hc:wr.cell? a=some u)=>(hW.cell (p:=a) (World.block_lt_of_cell? wr _ hc)).trans hc
    have HX:=Lib.hid (fun (W:World) (hW:Below wr.heap.size wr W)=>anZ (hcl hW k0) (anZ (hcl hW k1) (anZ (hcl hW k0') (hcl hW k1'))))
    have HS1:=Lib.hid (fun (W:World) (hW:Below wr.heap.size wr W)=>(same_any W (bk.1.below hW) (bk'.1.below hW) (by omega) (by omega)).mono (fun e w' hz=>show e = .returned (.bool (decide (p.1=q.1)))∧Below wr.heap.size wr w' from ⟨by rw [hz.1,cmp_zero],hW.trans (hz.2.mono hW.size)⟩))
    have HS2:=Lib.hid (fun (W:World) (hW:Below wr.heap.size wr W)=>(same_any W (bv.1.below hW) (bv'.1.below hW) (by omega) (by omega)).mono (fun e w' hz=>show e = .returned (.bool (decide (p.2=q.2)))∧Below wr.heap.size wr w' from ⟨by rw [hz.1,cmp_zero],hW.trans (hz.2.mono hW.size)⟩))
    have HB:=Lib.hid (anZ hb (anZ ht (anZ hp (anZ hq (anZ hlt hr)))))
    clear h hm hn hlen hl hl2 ht hb hp hq bk bv bk' bv' hpl hql hp1 hp2 hq1 hq2 hcl k0 k1 k0' k1' hlt hr
    go_upto_region 6 with fail
    refine region_till 99 (fun W=>Below wr.heap.size wr W) (by kernel_rfl) (below_drewN (Below.refl _ _) 1) (fun hS=>?_)
    refine tkZ (i:=0) 17 (.slice (some ⟨g,o,none⟩) n lc) rfl rfl (by kernel_rfl) (fun _ _ _ h=>h) (by rfl) (fun W hW=>?_) hS ?_
    ·obtain ⟨k0,k1,k0',k1'⟩:=HX.out W hW
     clear hW
     go_simp
    simp only [Act.put,sAZ,sBZ,sCZ]
    refine tkZ (i:=1) 18 (.int .i64 (r:Int)) rfl rfl (by kernel_rfl) (fun _ _ _ h=>h) (by rfl) (fun W hW=>?_) hS ?_
    ·obtain ⟨k0,k1,k0',k1'⟩:=HX.out W hW
     clear hW
     go_simp
    simp only [Act.put,sAZ,sBZ,sCZ]
    refine tkZ (i:=2) 19 (.pointer (some ⟨g,o+r*2,none⟩)) rfl rfl (by kernel_rfl) (fun _ _ _ h=>h) (by rfl) (fun W hW=>?_) hS ?_
    ·obtain ⟨k0,k1,k0',k1'⟩:=HX.out W hW
     clear hW
     go_simp
    simp only [Act.put,sAZ,sBZ,sCZ]
    refine tkZ (i:=3) 20 (.pointer (some ⟨g,o+r*2,none⟩)) rfl rfl (by kernel_rfl) (fun _ _ _ h=>h) (by rfl) (fun W hW=>?_) hS ?_
    ·obtain ⟨k0,k1,k0',k1'⟩:=HX.out W hW
     clear hW
     go_simp
    simp only [Act.put,sAZ,sBZ,sCZ]
    refine tkZ (i:=4) 21 (.slice pa p1 pc) rfl rfl (by kernel_rfl) (fun _ _ _ h=>h) (by rfl) (fun W hW=>?_) hS ?_
    ·obtain ⟨k0,k1,k0',k1'⟩:=HX.out W hW
     clear hW
     go_simp
    simp only [Act.put,sAZ,sBZ,sCZ]
    refine tkZ (i:=5) 22 (.slice (some ⟨g',o',none⟩) n xc) rfl rfl (by kernel_rfl) (fun _ _ _ h=>h) (by rfl) (fun W hW=>?_) hS ?_
    ·obtain ⟨k0,k1,k0',k1'⟩:=HX.out W hW
     clear hW
     go_simp
    simp only [Act.put,sAZ,sBZ,sCZ]
    refine tkZ (i:=6) 23 (.int .i64 (r:Int)) rfl rfl (by kernel_rfl) (fun _ _ _ h=>h) (by rfl) (fun W hW=>?_) hS ?_
    ·obtain ⟨k0,k1,k0',k1'⟩:=HX.out W hW
     clear hW
     go_simp
    simp only [Act.put,sAZ,sBZ,sCZ]
    refine tkZ (i:=7) 24 (.pointer (some ⟨g',o'+r*2,none⟩)) rfl rfl (by kernel_rfl) (fun _ _ _ h=>h) (by rfl) (fun W hW=>?_) hS ?_
    ·obtain ⟨k0,k1,k0',k1'⟩:=HX.out W hW
     clear hW
     go_simp
    simp only [Act.put,sAZ,sBZ,sCZ]
    refine tkZ (i:=8) 25 (.pointer (some ⟨g',o'+r*2,none⟩)) rfl rfl (by kernel_rfl) (fun _ _ _ h=>h) (by rfl) (fun W hW=>?_) hS ?_
    ·obtain ⟨k0,k1,k0',k1'⟩:=HX.out W hW
     clear hW
     go_simp
    simp only [Act.put,sAZ,sBZ,sCZ]
    refine tkZ (i:=9) 26 (.slice pa' q1 pc') rfl rfl (by kernel_rfl) (fun _ _ _ h=>h) (by rfl) (fun W hW=>?_) hS ?_
    ·obtain ⟨k0,k1,k0',k1'⟩:=HX.out W hW
     clear hW
     go_simp
    simp only [Act.put,sAZ,sBZ,sCZ]
    refine next_till 10 (by kernel_rfl) rfl (fun K hK=>?_)
    go_simp
    refine (HS1.out _ hS).mono ?_
    rintro e w3 ⟨rfl,hS3⟩
    by_cases he:p.1=q.1
    ·rw [decide_eq_true he]
     have HE:=Lib.hid he
     clear he
     go_simp
     refine hK.out _ _ (fun _=>hS3) ?_
     clear hK K hS
     have hS:=hS3
     refine tkZ (i:=11) 28 (.bool false) rfl rfl (by kernel_rfl) (fun _ _ _ h=>h) (by rfl) (fun W hW=>?_) hS ?_
     ·obtain ⟨k0,k1,k0',k1'⟩:=HX.out W hW
      clear hW
      go_simp
     simp only [Act.put,sAZ,sBZ,sCZ]
     refine tkZ (i:=12) 29 (.bool false) rfl rfl (by kernel_rfl) (fun _ _ _ h=>h) (by rfl) (fun W hW=>?_) hS ?_
     ·obtain ⟨k0,k1,k0',k1'⟩:=HX.out W hW
      clear hW
      go_simp
     simp only [Act.put,sAZ,sBZ,sCZ]
     refine tkZ (i:=13) 30 (.slice (some ⟨g,o,none⟩) n lc) rfl rfl (by kernel_rfl) (fun _ _ _ h=>h) (by rfl) (fun W hW=>?_) hS ?_
     ·obtain ⟨k0,k1,k0',k1'⟩:=HX.out W hW
      clear hW
      go_simp
     simp only [Act.put,sAZ,sBZ,sCZ]
     refine tkZ (i:=14) 31 (.int .i64 (r:Int)) rfl rfl (by kernel_rfl) (fun _ _ _ h=>h) (by rfl) (fun W hW=>?_) hS ?_
     ·obtain ⟨k0,k1,k0',k1'⟩:=HX.out W hW
      clear hW
      go_simp
     simp only [Act.put,sAZ,sBZ,sCZ]
     refine tkZ (i:=15) 32 (.pointer (some ⟨g,o+r*2,none⟩)) rfl rfl (by kernel_rfl) (fun _ _ _ h=>h) (by rfl) (fun W hW=>?_) hS ?_
     ·obtain ⟨k0,k1,k0',k1'⟩:=HX.out W hW
      clear hW
      go_simp
     simp only [Act.put,sAZ,sBZ,sCZ]
     refine tkZ (i:=16) 33 (.pointer (some ⟨g,o+r*2+1,none⟩)) rfl rfl (by kernel_rfl) (fun _ _ _ h=>h) (by rfl) (fun W hW=>?_) hS ?_
     ·obtain ⟨k0,k1,k0',k1'⟩:=HX.out W hW
      clear hW
      go_simp
     simp only [Act.put,sAZ,sBZ,sCZ]
     refine tkZ (i:=17) 34 (.slice va p2 vc) rfl rfl (by kernel_rfl) (fun _ _ _ h=>h) (by rfl) (fun W hW=>?_) hS ?_
     ·obtain ⟨k0,k1,k0',k1'⟩:=HX.out W hW
      clear hW
      go_simp
     simp only [Act.put,sAZ,sBZ,sCZ]
     refine tkZ (i:=18) 35 (.slice (some ⟨g',o',none⟩) n xc) rfl rfl (by kernel_rfl) (fun _ _ _ h=>h) (by rfl) (fun W hW=>?_) hS ?_
     ·obtain ⟨k0,k1,k0',k1'⟩:=HX.out W hW
      clear hW
      go_simp
     simp only [Act.put,sAZ,sBZ,sCZ]
     refine tkZ (i:=19) 36 (.int .i64 (r:Int)) rfl rfl (by kernel_rfl) (fun _ _ _ h=>h) (by rfl) (fun W hW=>?_) hS ?_
     ·obtain ⟨k0,k1,k0',k1'⟩:=HX.out W hW
      clear hW
      go_simp
     simp only [Act.put,sAZ,sBZ,sCZ]
     refine tkZ (i:=20) 37 (.pointer (some ⟨g',o'+r*2,none⟩)) rfl rfl (by kernel_rfl) (fun _ _ _ h=>h) (by rfl) (fun W hW=>?_) hS ?_
     ·obtain ⟨k0,k1,k0',k1'⟩:=HX.out W hW
      clear hW
      go_simp
     simp only [Act.put,sAZ,sBZ,sCZ]
     refine tkZ (i:=21) 38 (.pointer (some ⟨g',o'+r*2+1,none⟩)) rfl rfl (by kernel_rfl) (fun _ _ _ h=>h) (by rfl) (fun W hW=>?_) hS ?_
     ·obtain ⟨k0,k1,k0',k1'⟩:=HX.out W hW
      clear hW
      go_simp
     simp only [Act.put,sAZ,sBZ,sCZ]
     refine tkZ (i:=22) 39 (.slice va' q2 vc') rfl rfl (by kernel_rfl) (fun _ _ _ h=>h) (by rfl) (fun W hW=>?_) hS ?_
     ·obtain ⟨k0,k1,k0',k1'⟩:=HX.out W hW
      clear hW
      go_simp
     simp only [Act.put,sAZ,sBZ,sCZ]
     refine next_till 23 (by kernel_rfl) rfl (fun K hK=>?_)
     go_simp
     refine (HS2.out _ hS).mono ?_
     rintro e w4 ⟨rfl,hS4⟩
     by_cases hf:p.2=q.2
     ·rw [decide_eq_true hf]
      have hpq:p=q:=Prod.ext HE.out hf
      have HG:=Lib.hid (show ls.take (r+1)=ms.take (r+1) by rw [List.take_add_one,List.take_add_one,HB.out.2.2.1,HB.out.2.2.2.1,HB.out.2.1,hpq])
      clear hf hpq
      go_simp
      refine hK.out _ _ (fun _=>hS4) ?_
      clear hK K hS
      have hS:=hS4
      refine tkZ (i:=24) 41 (.bool false) rfl rfl (by kernel_rfl) (fun _ _ _ h=>h) (by rfl) (fun W hW=>?_) hS ?_
      ·obtain ⟨k0,k1,k0',k1'⟩:=HX.out W hW
       clear hW
       go_simp
      simp only [Act.put,sAZ,sBZ,sCZ]
      refine tkZ (i:=25) 42 (.bool false) rfl rfl (by kernel_rfl) (fun _ _ _ h=>h) (by rfl) (fun W hW=>?_) hS ?_
      ·obtain ⟨k0,k1,k0',k1'⟩:=HX.out W hW
       clear hW
       go_simp
      simp only [Act.put,sAZ,sBZ,sCZ]
      refine done_till (by kernel_rfl) ?_ _
      have HZ:=Lib.hid (HB.out.1.trans (hS.mono HB.out.1.size))
      clear hS hS3 hS4
      go_wp2
      go_roundw
      case rel=>exact ⟨r+1,HB.out.2.2.2.2.1,by go_num,HG.out,HZ.out⟩
      case measure =>
       have:=HB.out.2.2.2.2.1
       simp [intOf]; omega
     ·rw [decide_eq_false hf]
      have HG:=Lib.hid (show decide (ls=ms)=false from decide_eq_false fun e=>by
       have h1:=HB.out.2.2.1
       rw [e,HB.out.2.2.2.1] at h1
       exact hf (by rw [Option.some.inj h1]))
      clear hf
      go_simp
      refine hK.out _ _ (fun _=>hS4) ?_
      clear hK K hS
      have hS:=hS4
      refine tkZ (i:=24) 41 (.bool true) rfl rfl (by kernel_rfl) (fun _ _ _ h=>h) (by rfl) (fun W hW=>?_) hS ?_
      ·obtain ⟨k0,k1,k0',k1'⟩:=HX.out W hW
       clear hW
       go_simp
      simp only [Act.put,sAZ,sBZ,sCZ]
      refine tkZ (i:=25) 42 (.bool true) rfl rfl (by kernel_rfl) (fun _ _ _ h=>h) (by rfl) (fun W hW=>?_) hS ?_
      ·obtain ⟨k0,k1,k0',k1'⟩:=HX.out W hW
       clear hW
       go_simp
      simp only [Act.put,sAZ,sBZ,sCZ]
      refine done_till (by kernel_rfl) ?_ _
      have HZ:=Lib.hid (HB.out.1.trans (hS.mono HB.out.1.size))
      clear hS hS3 hS4
      go_wp2
      go_ret
      rw [HG.out]
      exact ⟨rfl,HZ.out⟩
    ·rw [decide_eq_false he]
     have HG:=Lib.hid (show decide (ls=ms)=false from decide_eq_false fun e=>by
      have h1:=HB.out.2.2.1
      rw [e,HB.out.2.2.2.1] at h1
      exact he (by rw [Option.some.inj h1]))
     clear he
     go_simp
     refine hK.out _ _ (fun _=>hS3) ?_
     clear hK K hS
     have hS:=hS3
     refine tkZ (i:=11) 28 (.bool true) rfl rfl (by kernel_rfl) (fun _ _ _ h=>h) (by rfl) (fun W hW=>?_) hS ?_
     ·obtain ⟨k0,k1,k0',k1'⟩:=HX.out W hW
      clear hW
      go_simp
     simp only [Act.put,sAZ,sBZ,sCZ]
     refine tkZ (i:=12) 29 (.bool true) rfl rfl (by kernel_rfl) (fun _ _ _ h=>h) (by rfl) (fun W hW=>?_) hS ?_
     ·obtain ⟨k0,k1,k0',k1'⟩:=HX.out W hW
      clear hW
      go_simp
     simp only [Act.put,sAZ,sBZ,sCZ]
     refine skip_till (i:=13) (some 30) rfl rfl (by kernel_rfl) (by kernel_rfl) (by kernel_rfl) (by kernel_rfl) (by decide) (fun _ _ _ h=>h) (by rfl) hS ?_
     simp only [Act.put,sAZ,sBZ,sCZ]
     refine skip_till (i:=14) (some 31) rfl rfl (by kernel_rfl) (by kernel_rfl) (by kernel_rfl) (by kernel_rfl) (by decide) (fun _ _ _ h=>h) (by rfl) hS ?_
     simp only [Act.put,sAZ,sBZ,sCZ]
     refine skip_till (i:=15) (some 32) rfl rfl (by kernel_rfl) (by kernel_rfl) (by kernel_rfl) (by kernel_rfl) (by decide) (fun _ _ _ h=>h) (by rfl) hS ?_
     simp only [Act.put,sAZ,sBZ,sCZ]
     refine skip_till (i:=16) (some 33) rfl rfl (by kernel_rfl) (by kernel_rfl) (by kernel_rfl) (by kernel_rfl) (by decide) (fun _ _ _ h=>h) (by rfl) hS ?_
     simp only [Act.put,sAZ,sBZ,sCZ]
     refine skip_till (i:=17) (some 34) rfl rfl (by kernel_rfl) (by kernel_rfl) (by kernel_rfl) (by kernel_rfl) (by decide) (fun _ _ _ h=>h) (by rfl) hS ?_
     simp only [Act.put,sAZ,sBZ,sCZ]
     refine skip_till (i:=18) (some 35) rfl rfl (by kernel_rfl) (by kernel_rfl) (by kernel_rfl) (by kernel_rfl) (by decide) (fun _ _ _ h=>h) (by rfl) hS ?_
     simp only [Act.put,sAZ,sBZ,sCZ]
     refine skip_till (i:=19) (some 36) rfl rfl (by kernel_rfl) (by kernel_rfl) (by kernel_rfl) (by kernel_rfl) (by decide) (fun _ _ _ h=>h) (by rfl) hS ?_
     simp only [Act.put,sAZ,sBZ,sCZ]
     refine skip_till (i:=20) (some 37) rfl rfl (by kernel_rfl) (by kernel_rfl) (by kernel_rfl) (by kernel_rfl) (by decide) (fun _ _ _ h=>h) (by rfl) hS ?_
     simp only [Act.put,sAZ,sBZ,sCZ]
     refine skip_till (i:=21) (some 38) rfl rfl (by kernel_rfl) (by kernel_rfl) (by kernel_rfl) (by kernel_rfl) (by decide) (fun _ _ _ h=>h) (by rfl) hS ?_
     simp only [Act.put,sAZ,sBZ,sCZ]
     refine skip_till (i:=22) (some 39) rfl rfl (by kernel_rfl) (by kernel_rfl) (by kernel_rfl) (by kernel_rfl) (by decide) (fun _ _ _ h=>h) (by rfl) hS ?_
     simp only [Act.put,sAZ,sBZ,sCZ]
     refine skip_till (i:=23) (some 40) rfl rfl (by kernel_rfl) (by kernel_rfl) (by kernel_rfl) (by kernel_rfl) (by decide) (fun _ _ _ h=>h) (by rfl) hS ?_
     simp only [Act.put,sAZ,sBZ,sCZ]
     refine skip_till (i:=24) (some 41) rfl rfl (by kernel_rfl) (by kernel_rfl) (by kernel_rfl) (by kernel_rfl) (by decide) (fun _ _ _ h=>h) (by rfl) hS ?_
     simp only [Act.put,sAZ,sBZ,sCZ]
     refine tkZ (i:=25) 42 (.bool true) rfl rfl (by kernel_rfl) (fun _ _ _ h=>h) (by rfl) (fun W hW=>?_) hS ?_
     ·obtain ⟨k0,k1,k0',k1'⟩:=HX.out W hW
      clear hW
      go_simp
     simp only [Act.put,sAZ,sBZ,sCZ]
     refine done_till (by kernel_rfl) ?_ _
     have HZ:=Lib.hid (HB.out.1.trans (hS.mono HB.out.1.size))
     clear hS hS3
     go_wp2
     go_ret
     rw [HG.out]
     exact ⟨rfl,HZ.out⟩
   ·obtain rfl:r=n:=by omega
    have hil:¬ (r:Int) < (r:Int):=by omega
    have HG:=Lib.hid (anZ hb (show decide (ls=ms)=true from decide_eq_true (by rw [List.take_of_length_le (by omega),List.take_of_length_le (by omega)] at ht; exact ht)))
    clear h hm hn hlen hl hl2 ht hb hlt hr
    go_wp2
    go_ret
    rw [HG.out.2]
    exact ⟨rfl,HG.out.1⟩
 ·have HG:=Lib.hid (show decide (ls=ms)=false from decide_eq_false fun e=>hlen (by rw [e]))
  have hni:¬ (ls.length:Int)=(ms.length:Int):=by omega
  obtain ⟨a,ha⟩:∃ a,a=ls.length:=⟨_,rfl⟩
  obtain ⟨b,hb⟩:∃ b,b=ms.length:=⟨_,rfl⟩
  rw [← ha, ← hb] at hni
  rw [← ha, ← hb]
  clear h hm hl hl2 hlen hle hlm ha hb
  go_enter Tryz.func21,Tryz.ntmps21
  go_wp2
  go_ret
  rw [HG.out]
  exact ⟨rfl,Below.refl _ _⟩
end Go.Proofs.YtgkofgifoiinkaaGreat
