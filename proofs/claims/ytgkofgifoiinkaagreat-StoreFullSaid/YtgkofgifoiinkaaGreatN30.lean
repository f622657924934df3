/- A tree that is built of pairs that rise, over whatever blocks of a device that may be armed: the walk of Build; conditions: the device is on, and as many pages are free as it takes. -/
import Derived.Test.YtgkofgifoiinkaaGreatN19
import Derived.Test.YtgkofgifoiinkaaGreatN29
import Derived.Test.YtgkofgifoiinkaaGreatN03
import Derived.Test.YtgkofgifoiinkaaGreatN17
import Derived.Test.YtgkofgifoiinkaaGreatN28
import Derived.Test.YtgkofgifoiinkaaGreatN18
import Derived.Test.YtgkofgifoiinkaaGreatN27
namespace Go.Proofs.YtgkofgifoiinkaaGreat
open Go.RowKit
structure StB (w:World) (sb db pb tb mb:Nat) (jv:Value) (D:Dv) (ps:List Pg) (g:Nat) (dead:Bool) (P:List Pr) (F G:Nat→Prop):Prop where
 top:StC w sb (ptr db) (ptr pb) (ptr tb) jv g mb (bytesP P:Nat) dead
 dev:Dev w db D F
 pgs:Pgs w pb ps G
 tree:Cel w tb [ptr db,ptr pb, .int .i64 (362:Nat)] 142
 map:SMap w mb P
 fg:∀ q,F q→¬ G q
 fo:∀ q,F q→q≠sb∧q≠tb∧q≠mb
 go:∀ q,G q→q≠sb∧q≠tb∧q≠mb
 room:362+ps.length=D.bk.length
def BS (sb mb:Nat) (F G:Nat→Prop) (q:Nat):Prop:=q=sb∨q=mb∨F q∨G q
section
variable {w w':World} {sb db pb tb mb g g':Nat} {jv jv':Value} {D D':Dv} {ps ps':List Pg} {dead dead':Bool} {P P':List Pr} {F G F' G' K:Nat→Prop}
theorem StB.lt (h:StB w sb db pb tb mb jv D ps g dead P F G):∀ q,BS sb mb F G q→q < w.heap.size:=fun q hq=>by
 rcases hq with rfl | rfl | hq | hq
 ·exact h.top.lt
 ·exact h.map.lt
 ·exact h.dev.fl q hq
 ·exact h.pgs.fl q hq
theorem StB.tlt (h:StB w sb db pb tb mb jv D ps g dead P F G):tb < w.heap.size:=h.tree.lt
theorem StB.ne (h:StB w sb db pb tb mb jv D ps g dead P F G):sb≠tb∧sb≠mb∧tb≠mb:=by
 refine ⟨fun e=>?_,h.map.ne h.top,h.map.ne h.tree⟩
 subst e
 have:=(Cel.inj h.top h.tree).2
 revert this
 decide
theorem StB.tout (h:StB w sb db pb tb mb jv D ps g dead P F G):¬ BS sb mb F G tb:=fun hq=>by
 rcases hq with e | e | hq | hq
 ·exact h.ne.1 e.symm
 ·exact h.ne.2.2 e
 ·exact (h.fo _ hq).2.1 rfl
 ·exact (h.go _ hq).2.1 rfl
theorem StB.turn (h:StB w sb db pb tb mb jv D ps g dead P F G) (ho:Only K w w') (ht:¬ K tb) (top:StC w' sb (ptr db) (ptr pb) (ptr tb) jv' g' mb (bytesP P':Nat) dead') (dev:Dev w' db D' F') (pgs:Pgs w' pb ps' G') (map:SMap w' mb P')
  (hF:∀ q,F' q→F q∨w.heap.size≤q) (hG:∀ q,G' q→G q∨w.heap.size≤q) (hfg:∀ q,F' q→¬ G' q) (hr:362+ps'.length=D'.bk.length):StB w' sb db pb tb mb jv' D' ps' g' dead' P' F' G' :=
 ⟨top,dev,pgs,h.tree.only ho ht,map,hfg,fun q hq=>by
  rcases hF q hq with h1 | h1
  ·exact h.fo q h1
  ·have:=h.top.lt; have:=h.tlt; have:=h.map.lt
   exact ⟨by omega,by omega,by omega⟩,fun q hq=>by
  rcases hG q hq with h1 | h1
  ·exact h.go q h1
  ·have:=h.top.lt; have:=h.tlt; have:=h.map.lt
   exact ⟨by omega,by omega,by omega⟩,hr⟩
theorem StB.only (h:StB w sb db pb tb mb jv D ps g dead P F G) (ho:Only K w w') (ht:¬ K tb) (hk:∀ q,BS sb mb F G q→¬ K q):StB w' sb db pb tb mb jv D ps g dead P F G :=
 h.turn ho ht (h.top.kept (ho.block sb h.top.lt (hk _ (.inl rfl)))) (h.dev.kept (fun q hq=>ho.block q (h.dev.fl q hq) (hk q (.inr (.inr (.inl hq))))) ho.size)
  (h.pgs.kept (fun q hq=>ho.block q (h.pgs.fl q hq) (hk q (.inr (.inr (.inr hq))))) ho.size) (h.map.kept (ho.block mb h.map.lt (hk _ (.inr (.inl rfl))))) (fun _ h=>.inl h) (fun _ h=>.inl h) h.fg h.room
theorem StB.below (h:StB w sb db pb tb mb jv D ps g dead P F G) (hb:Below w.heap.size w w'):StB w' sb db pb tb mb jv D ps g dead P F G :=
 h.only (Only.of_below hb fun _=>False) (fun h=>h) fun _ _ h=>h
theorem StB.drewN (h:StB w sb db pb tb mb jv D ps g dead P F G) (n:Nat):StB (w.drewN n) sb db pb tb mb jv D ps g dead P F G:=h.below (below_drewN (Below.refl _ _) n)
theorem StB.devs (h:StB w sb db pb tb mb jv D ps g dead P F G) (hd:Dev w' db D' (Grow F w w')) (ho:Only F w w') (hl:D'.bk.length=D.bk.length):StB w' sb db pb tb mb jv D' ps g dead P (Grow F w w') G∧Step (BS sb mb F G) w w' (BS sb mb (Grow F w w') G):=by
 refine ⟨h.turn ho (fun hq=>(h.fo _ hq).2.1 rfl) (h.top.kept (ho.block sb h.top.lt fun hq=>(h.fo _ hq).1 rfl)) hd (h.pgs.kept (fun q hq=>ho.block q (h.pgs.fl q hq) fun hf=>h.fg q hf hq) ho.size)
  (h.map.kept (ho.block mb h.map.lt fun hq=>(h.fo _ hq).2.2 rfl)) (fun q hq=>hq.imp id fun h=>h.1) (fun _ h=>.inl h) (fun q hq hg=>?_) (by rw [hl]; exact h.room),?_,?_⟩
 ·rcases hq with hq | hq
  ·exact h.fg q hq hg
  ·have:=h.pgs.fl q hg; omega
 ·exact ho.mono fun q _ hq=>.inr (.inr (.inl hq))
 ·intro q hq
  rcases hq with hq | hq | (hq | hq) | hq
  ·exact .inl (.inl hq)
  ·exact .inl (.inr (.inl hq))
  ·exact .inl (.inr (.inr (.inl hq)))
  ·exact .inr hq.1
  ·exact .inl (.inr (.inr (.inr hq)))
theorem StB.pags (h:StB w sb db pb tb mb jv D ps g dead P F G) (hp:Pgs w' pb ps' G) (ho:Only G w w') (hl:ps'.length=ps.length):StB w' sb db pb tb mb jv D ps' g dead P F G∧Step (BS sb mb F G) w w' (BS sb mb F G) :=
 ⟨h.turn ho (fun hq=>(h.go _ hq).2.1 rfl) (h.top.kept (ho.block sb h.top.lt fun hq=>(h.go _ hq).1 rfl)) (h.dev.kept (fun q hq=>ho.block q (h.dev.fl q hq) fun hg=>h.fg q hq hg) ho.size) hp
  (h.map.kept (ho.block mb h.map.lt fun hq=>(h.go _ hq).2.2 rfl)) (fun _ h=>.inl h) (fun _ h=>.inl h) h.fg (by rw [hl]; exact h.room),ho.mono fun q _ hq=>.inr (.inr (.inr hq)),fun _ h=>.inl h⟩
theorem StB.trs (h:StB w sb db pb tb mb jv D ps g dead P F G):TrS w tb db pb 362 D ps (fun q=>F q∨G q) :=
 ⟨F,G,h.tree,h.dev,h.pgs,h.fg,fun _ h=>.inl h,fun _ h=>.inr h,fun q hq=>hq.elim (h.dev.fl q) (h.pgs.fl q),fun hq=>hq.elim (fun hf=>(h.fo _ hf).2.1 rfl) (fun hg=>(h.go _ hg).2.1 rfl),by have:=h.room; omega⟩
theorem StB.tree' {S':Nat→Prop} (h:StB w sb db pb tb mb jv D ps g dead P F G) (ht:TrS w' tb db pb 362 D' ps' S') (hs:Step (fun q=>F q∨G q) w w' S') (hd:D'.bk.length=D.bk.length) (hl:ps'.length=ps.length) :
  ∃ F' G',StB w' sb db pb tb mb jv D' ps' g dead P F' G'∧Step (BS sb mb F G) w w' (BS sb mb F' G')∧∀ q,F' q∨G' q→S' q:=by
 obtain ⟨F',G',hT⟩:=ht
 have h1:∀ q,q=sb∨q=tb∨q=mb→¬ (F q∨G q):=fun q hq hfg=>by
  rcases hfg with h2 | h2
  ·have:=h.fo q h2; omega
  ·have:=h.go q h2; omega
 have h3:∀ q,S' q→q≠sb∧q≠tb∧q≠mb:=fun q hq=>by
  rcases hs.more q hq with h2 | h2
  ·exact ⟨fun e=>h1 q (.inl e) h2,fun e=>h1 q (.inr (.inl e)) h2,fun e=>h1 q (.inr (.inr e)) h2⟩
  ·have:=h.top.lt; have:=h.tlt; have:=h.map.lt
   exact ⟨by omega,by omega,by omega⟩
 refine ⟨F',G',⟨h.top.kept (hs.only.block sb h.top.lt (h1 _ (.inl rfl))),hT.dev,hT.pgs,hT.tree,h.map.kept (hs.only.block mb h.map.lt (h1 _ (.inr (.inr rfl)))),hT.fg,fun q hq=>h3 q (hT.fs q hq),fun q hq=>h3 q (hT.gs q hq),by rw [hl,hd]; exact h.room⟩,⟨?_,?_⟩,fun q hq=>hq.elim (hT.fs q) (hT.gs q)⟩
 ·exact hs.only.mono fun q _ hq=>.inr (.inr hq)
 ·intro q hq
  rcases hq with hq | hq | hq | hq
  ·exact .inl (.inl hq)
  ·exact .inl (.inr (.inl hq))
  ·exact (hs.more q (hT.fs q hq)).imp (fun h=>.inr (.inr h)) id
  ·exact (hs.more q (hT.gs q hq)).imp (fun h=>.inr (.inr h)) id
theorem StB.own (h:StB w sb db pb tb mb jv D ps g dead P F G) (ho:Only (fun q=>q=sb∨q=mb) w w') (top:StC w' sb (ptr db) (ptr pb) (ptr tb) jv' g' mb (bytesP P':Nat) dead') (map:SMap w' mb P') :
  StB w' sb db pb tb mb jv' D ps g' dead' P' F G∧Step (BS sb mb F G) w w' (BS sb mb F G):=by
 have hf:∀ q,F q→¬ (q=sb∨q=mb):=fun q hq e=>by have:=h.fo q hq; omega
 have hg:∀ q,G q→¬ (q=sb∨q=mb):=fun q hq e=>by have:=h.go q hq; omega
 exact ⟨h.turn ho (fun e=>by have:=h.ne; omega) top (h.dev.kept (fun q hq=>ho.block q (h.dev.fl q hq) (hf q hq)) ho.size) (h.pgs.kept (fun q hq=>ho.block q (h.pgs.fl q hq) (hg q hq)) ho.size) map (fun _ h=>.inl h) (fun _ h=>.inl h) h.fg h.room,
  ho.mono fun q _ hq=>hq.elim .inl fun e=>.inr (.inl e),fun _ h=>.inl h⟩
theorem StB.set (h:StB w sb db pb tb mb jv D ps g dead P F G) (i:Nat) (u:Value) (top:StC (w.setCell ⟨sb,i,none⟩ u) sb (ptr db) (ptr pb) (ptr tb) jv' g' mb (bytesP P:Nat) dead') :
  StB (w.setCell ⟨sb,i,none⟩ u) sb db pb tb mb jv' D ps g' dead' P F G∧Step (BS sb mb F G) w (w.setCell ⟨sb,i,none⟩ u) (BS sb mb F G):=by
 have ho:Only (fun q=>q=sb∨q=mb) w (w.setCell ⟨sb,i,none⟩ u):=(Only.refl _ _).setCell (.inl (.inl rfl)) u
 exact h.own ho top (h.map.kept (Below.heap_setCell _ _ _ _ fun e=>h.ne.2.1 e.symm))
theorem StB.does (h:StB w sb db pb tb mb jv D ps g dead P F G) (hd:Does w sb (ptr db) (ptr pb) (ptr tb) jv g mb dead P' w'):StB w' sb db pb tb mb jv D ps g dead P' F G∧Step (BS sb mb F G) w w' (BS sb mb F G):=h.own hd.2.2 hd.1 hd.2.1
end
end Go.Proofs.YtgkofgifoiinkaaGreat
namespace Go.Proofs.YtgkofgifoiinkaaGreat
open Go.RowKit
structure StA (w:World) (sb db pb tb jb mb:Nat) (D:Dv) (ps:List Pg) (J:Jn) (g:Nat) (dead:Bool) (P:List Pr) (F G:Nat→Prop):Prop where
 b:StB w sb db pb tb mb (ptr jb) D ps g dead P F G
 j:JAt w jb db J
 fo:¬ F jb
 go:¬ G jb
def AS (sb jb mb:Nat) (F G:Nat→Prop) (q:Nat):Prop:=BS sb mb F G q∨q=jb
section
variable {w w':World} {sb db pb tb jb mb g g':Nat} {D D':Dv} {ps ps':List Pg} {J J':Jn} {dead dead':Bool} {P P':List Pr} {F G F' G' K:Nat→Prop}
theorem StA.out (h:StA w sb db pb tb jb mb D ps J g dead P F G):¬ BS sb mb F G jb:=fun hq=>by
 rcases hq with e | e | hq | hq
 ·subst e
  have:=(Cel.inj h.b.top h.j).2
  revert this
  decide
 ·exact h.b.map.ne h.j e
 ·exact h.fo hq
 ·exact h.go hq
theorem StA.lt (h:StA w sb db pb tb jb mb D ps J g dead P F G):∀ q,AS sb jb mb F G q→q < w.heap.size:=fun q hq=>hq.elim (h.b.lt q) fun e=>e ▸ h.j.lt
theorem StA.tout (h:StA w sb db pb tb jb mb D ps J g dead P F G):¬ AS sb jb mb F G tb:=fun hq=>by
 rcases hq with hq | e
 ·exact h.b.tout hq
 ·subst e
  have:=(Cel.inj h.b.tree h.j).2
  revert this
  decide
theorem StA.with (h:StA w sb db pb tb jb mb D ps J g dead P F G) (hb:StB w' sb db pb tb mb (ptr jb) D' ps' g' dead' P' F' G') (hs:Step (BS sb mb F G) w w' (BS sb mb F' G')) :
  StA w' sb db pb tb jb mb D' ps' J g' dead' P' F' G'∧Step (AS sb jb mb F G) w w' (AS sb jb mb F' G'):=by
 have ho:∀ q,BS sb mb F' G' q→q≠jb:=fun q hq e=>by
  subst e
  rcases hs.more _ hq with h1 | h1
  ·exact h.out h1
  ·have:=h.j.lt; omega
 refine ⟨⟨hb,h.j.kept (hs.only.block jb h.j.lt h.out),fun hf=>ho jb (.inr (.inr (.inl hf))) rfl,fun hg=>ho jb (.inr (.inr (.inr hg))) rfl⟩,hs.only.mono fun q _ hq=>.inl hq,fun q hq=>?_⟩
 rcases hq with hq | e
 ·exact (hs.more q hq).imp .inl id
 ·exact .inl (.inr e)
theorem StA.only (h:StA w sb db pb tb jb mb D ps J g dead P F G) (ho:Only K w w') (ht:¬ K tb) (hk:∀ q,AS sb jb mb F G q→¬ K q):StA w' sb db pb tb jb mb D ps J g dead P F G :=
 ⟨h.b.only ho ht fun q hq=>hk q (.inl hq),h.j.kept (ho.block jb h.j.lt (hk _ (.inr rfl))),h.fo,h.go⟩
theorem StA.below (h:StA w sb db pb tb jb mb D ps J g dead P F G) (hb:Below w.heap.size w w'):StA w' sb db pb tb jb mb D ps J g dead P F G :=
 h.only (Only.of_below hb fun _=>False) (fun h=>h) fun _ _ h=>h
theorem StA.drewN (h:StA w sb db pb tb jb mb D ps J g dead P F G) (n:Nat):StA (w.drewN n) sb db pb tb jb mb D ps J g dead P F G:=h.below (below_drewN (Below.refl _ _) n)
theorem StA.turns (h:StA w sb db pb tb jb mb D ps J g dead P F G) (ht:Turns w jb db J' w'):StA w' sb db pb tb jb mb D ps J' g dead P F G∧Step (AS sb jb mb F G) w w' (AS sb jb mb F G) :=
 ⟨⟨h.b.only ht.2 (fun e=>h.tout (.inr e)) fun q hq e=>h.out (e ▸ hq),ht.1,h.fo,h.go⟩,ht.2.mono fun q _ e=>.inr e,fun _ h=>.inl h⟩
theorem StA.apps (h:StA w sb db pb tb jb mb D ps J g dead P F G) (hd:Dev w' db D' (Grow F w w')) (hj:JAt w' jb db J') (ho:Only (fun q=>F q∨q=jb) w w') (hl:D'.bk.length=D.bk.length) :
  StA w' sb db pb tb jb mb D' ps J' g dead P (Grow F w w') G∧Step (AS sb jb mb F G) w w' (AS sb jb mb (Grow F w w') G):=by
 have hjs:∀ q,q=sb∨q=tb∨q=mb∨G q→¬ (F q∨q=jb):=fun q hq hk=>by
  rcases hk with hk | e
  ·have:=h.b.fo q hk
   rcases hq with e | e | e | hg
   ·exact this.1 e
   ·exact this.2.1 e
   ·exact this.2.2 e
   ·exact h.b.fg q hk hg
  ·subst e
   rcases hq with e | e | e | hg
   ·exact h.out (.inl e)
   ·exact h.tout (.inr e.symm)
   ·exact h.out (.inr (.inl e))
   ·exact h.go hg
 refine ⟨⟨h.b.turn ho (hjs _ (.inr (.inl rfl))) (h.b.top.kept (ho.block sb h.b.top.lt (hjs _ (.inl rfl)))) hd (h.b.pgs.kept (fun q hq=>ho.block q (h.b.pgs.fl q hq) (hjs q (.inr (.inr (.inr hq))))) ho.size)
  (h.b.map.kept (ho.block mb h.b.map.lt (hjs _ (.inr (.inr (.inl rfl)))))) (fun q hq=>hq.imp id fun h=>h.1) (fun _ h=>.inl h) (fun q hq hg=>?_) (by rw [hl]; exact h.b.room),hj,fun hq=>?_,h.go⟩,?_,?_⟩
 ·rcases hq with hq | hq
  ·exact h.b.fg q hq hg
  ·have:=h.b.pgs.fl q hg; omega
 ·rcases hq with hq | hq
  ·exact h.fo hq
  ·have:=h.j.lt; omega
 ·exact ho.mono fun q _ hq=>hq.elim (fun hf=>.inl (.inr (.inr (.inl hf)))) .inr
 ·intro q hq
  rcases hq with (hq | hq | (hq | hq) | hq) | hq
  ·exact .inl (.inl (.inl hq))
  ·exact .inl (.inl (.inr (.inl hq)))
  ·exact .inl (.inl (.inr (.inr (.inl hq))))
  ·exact .inr hq.1
  ·exact .inl (.inl (.inr (.inr (.inr hq))))
  ·exact .inl (.inr hq)
end
end Go.Proofs.YtgkofgifoiinkaaGreat
namespace Go.Proofs.YtgkofgifoiinkaaGreat
open Go.RowKit
def One (R:Ending→World→Prop):Prop:=∀ e w',R e w'→∃ c:Int,e = .returned (.int .i64 c)
section
variable {w:World} {sb b1 pgb:Nat} {dv pv tv jv:Value} {g mb:Nat} {bn:Int} {dead:Bool} {R:Ending→World→Prop}
set_option maxHeartbeats 1000000 in
theorem cl_build (hb:Cel w b1 [ptr sb] 31) {Q:Int→Int→World→Prop} (h:Calls Tryz.prog 76 #[ptr sb] w fun e w'=>∃ rv rc:Int,e = .returned (.tuple #[.int .i64 rv, .int .i64 rc])∧Q rv rc w')
  (hp:∀ rv rc w',Q rv rc w'→∃ z,Cel w' pgb [.int .i64 z] 3) :
  Calls Tryz.prog 75 #[ptr b1,ptr pgb] w fun e w2=>∃ rv rc w',e = .returned (.int .i64 rc)∧Q rv rc w'∧w2=w'.setCell ⟨pgb,0,none⟩ (.int .i64 rv):=by
 have c0:w.cell? ⟨b1,0,none⟩=some (ptr sb):=hb.cell 0
 have HP:=Lib.hid hp
 clear hp hb
 go_enter Tryz.func75,Tryz.ntmps75
 go_wp2_with fail
 refine h.mono ?_
 rintro e w1 ⟨rv,rc,rfl,hQ⟩
 clear h c0
 obtain ⟨z,hz⟩:=HP.out rv rc w1 hQ
 have p0:w1.cell? ⟨pgb,0,none⟩=some (.int .i64 z):=hz.cell 0
 have f0:=hz.frozen 0
 have HQ:=Lib.hid hQ
 clear hQ hz
 go_wp2
 go_ret
 exact ⟨rv,rc,w1,rfl,HQ.out,rfl⟩
theorem cl_flush (hb:Cel w b1 [ptr sb] 31) (hs:StC w sb dv pv tv jv g mb bn dead) {d:Nat} (hd:dv=ptr d) (h:Calls Tryz.prog 72 #[dv] w R) (hR:One R):Calls Tryz.prog 77 #[ptr b1] w R:=by
 have c0:w.cell? ⟨b1,0,none⟩=some (ptr sb):=hb.cell 0
 have c1:=hs.cells.1
 subst hd
 clear hb hs
 go_enter Tryz.func77,Tryz.ntmps77
 go_wp2_with fail
 refine h.mono ?_
 intro e w1 hQ
 obtain ⟨c,rfl⟩:=hR e w1 hQ
 have HQ:=Lib.hid hQ
 clear h c0 c1 hR hQ
 go_wp2
 exact HQ.out
theorem cl_settle (hb:Cel w b1 [ptr sb] 31) (hs:StC w sb dv pv tv jv g mb bn dead) {d:Nat} (hd:pv=ptr d) (h:Calls Tryz.prog 81 #[pv] w R) (hR:One R):Calls Tryz.prog 80 #[ptr b1] w R:=by
 have c0:w.cell? ⟨b1,0,none⟩=some (ptr sb):=hb.cell 0
 have c1:=hs.cells.2.1
 subst hd
 clear hb hs
 go_enter Tryz.func80,Tryz.ntmps80
 go_wp2_with fail
 refine h.mono ?_
 intro e w1 hQ
 obtain ⟨c,rfl⟩:=hR e w1 hQ
 have HQ:=Lib.hid hQ
 clear h c0 c1 hR hQ
 go_wp2
 exact HQ.out
theorem cl_forget (hb:Cel w b1 [ptr sb] 31) (hs:StC w sb dv pv tv jv g mb bn dead) {d:Nat} (hd:jv=ptr d) (h:Calls Tryz.prog 83 #[jv] w R) (hR:One R):Calls Tryz.prog 82 #[ptr b1] w R:=by
 have c0:w.cell? ⟨b1,0,none⟩=some (ptr sb):=hb.cell 0
 have c1:=hs.cells.2.2.2.1
 subst hd
 clear hb hs
 go_enter Tryz.func82,Tryz.ntmps82
 go_wp2_with fail
 refine h.mono ?_
 intro e w1 hQ
 obtain ⟨c,rfl⟩:=hR e w1 hQ
 have HQ:=Lib.hid hQ
 clear h c0 c1 hR hQ
 go_wp2
 exact HQ.out
theorem cl_save (hb:Cel w b1 [ptr sb] 31) {pg:Int} (hp:Cel w pgb [.int .i64 pg] 3) (h:Calls Tryz.prog 79 #[ptr sb, .int .i64 pg] w R) (hR:One R):Calls Tryz.prog 78 #[ptr b1,ptr pgb] w R:=by
 have c0:w.cell? ⟨b1,0,none⟩=some (ptr sb):=hb.cell 0
 have c1:w.cell? ⟨pgb,0,none⟩=some (.int .i64 pg):=hp.cell 0
 clear hb hp
 go_enter Tryz.func78,Tryz.ntmps78
 go_wp2_with fail
 refine h.mono ?_
 intro e w1 hQ
 obtain ⟨c,rfl⟩:=hR e w1 hQ
 have HQ:=Lib.hid hQ
 clear h c0 c1 hR hQ
 go_wp2
 exact HQ.out
end
def savL (b1 pgb:Nat):List Fv:=[⟨75, #[ptr b1,ptr pgb]⟩,⟨77, #[ptr b1]⟩,⟨78, #[ptr b1,ptr pgb]⟩,⟨80, #[ptr b1]⟩,⟨82, #[ptr b1]⟩]
theorem savL_enters (b1 pgb:Nat):∀ x∈savL b1 pgb,Enters x.f:=by
 intro x hx
 simp only [savL,List.mem_cons,List.not_mem_nil,or_false] at hx
 rcases hx with rfl | rfl | rfl | rfl | rfl
 ·exact enters_of Tryz.func75 (by kernel_rfl) rfl
 ·exact enters_of Tryz.func77 (by kernel_rfl) rfl
 ·exact enters_of Tryz.func78 (by kernel_rfl) rfl
 ·exact enters_of Tryz.func80 (by kernel_rfl) rfl
 ·exact enters_of Tryz.func82 (by kernel_rfl) rfl
set_option maxHeartbeats 1000000 in
theorem saving_any (sb:Nat) (w:World) {S:Nat→Prop} (hS:∀ q,S q→q < w.heap.size):Calls Tryz.prog 40 #[ptr sb] w fun e w'=>∃ lv b1 pgb,e = .returned lv∧Rd kdFn w' (fun q=>S q∨q=pgb) lv (savL b1 pgb)∧Cel w' b1 [ptr sb] 31∧Cel w' pgb [.int .i64 0] 3∧w.heap.size≤b1∧w.heap.size≤pgb∧b1≠pgb∧Below w.heap.size w w' ∧
  Ro kdFn 46 w' (fun q=>lv.ownBlock=some q) lv (savL b1 pgb)∧∀ q,lv.ownBlock=some q→w.heap.size≤q∧q≠b1∧q≠pgb∧q < w'.heap.size:=by
 go_enter Tryz.func40,Tryz.ntmps40
 go_wp2
 go_ret
 have hS2:∀ q,(S q∨q=w.heap.size+1)→q < ((w.alloc (.cells #[ptr sb] 31)).alloc (.cells #[.int .i64 0] 3)).heap.size:=fun q hq=>by
  have e:((w.alloc (.cells #[ptr sb] 31)).alloc (.cells #[.int .i64 0] 3)).heap.size=w.heap.size+1+1:=by simp
  rw [e]
  rcases hq with hq | hq
  ·have:=hS q hq; omega
  ·omega
 have hlit:=rd_lit kdFn ((w.alloc (.cells #[ptr sb] 31)).alloc (.cells #[.int .i64 0] 3)) 46 (fun q=>S q∨q=w.heap.size+1) hS2 (savL w.heap.size (w.heap.size+1)) ((savL w.heap.size (w.heap.size+1)).map Fv.v).toArray rfl (fun _ _=>trivial) (show 5≤1000 by decide) (n:=5) rfl
 have e2:((w.alloc (.cells #[ptr sb] 31)).alloc (.cells #[.int .i64 0] 3)).heap.size=w.heap.size+1+1:=by simp
 rw [e2] at hlit
 refine ⟨_,w.heap.size,w.heap.size+1,rfl,?_,?_,?_,Nat.le_refl _,by omega,by omega,?_,⟨savL w.heap.size (w.heap.size+1),rfl,?_,fun _ _=>trivial,fun q h=>h⟩,fun q hq=>?_⟩
 ·exact hlit
 ·exact ((Cel.new w #[ptr sb] 31).alloc _).alloc _
 ·have h3:=(Cel.new (w.alloc (.cells #[ptr sb] 31)) #[.int .i64 0] 3).alloc (.cells ((savL w.heap.size (w.heap.size+1)).map Fv.v).toArray 46)
  have e3:(w.alloc (.cells #[ptr sb] 31)).heap.size=w.heap.size+1:=by simp
  rw [e3] at h3
  exact h3
 ·exact (((Below.refl _ _).alloc (Nat.le_refl _) _).alloc (by simp) _).alloc (by simp; omega) _
 ·have h4:=World.ownsRow_lit (base:=0) (e:=46) (size:=1) ((w.alloc (.cells #[ptr sb] 31)).alloc (.cells #[.int .i64 0] 3)) ((savL w.heap.size (w.heap.size+1)).map Fv.v).toArray 5 (Nat.zero_le _) (by decide) rfl
  rw [e2] at h4
  exact h4
 ·cases hq
  simp
  omega
end Go.Proofs.YtgkofgifoiinkaaGreat
namespace Go.Proofs.YtgkofgifoiinkaaGreat
open Go.RowKit
theorem bytes_es (prs:List Pr):nsize 0 (prs.map prE)=bytesP prs:=by
 unfold nsize bytesP
 rw [List.map_map]
 rfl
theorem build_leaf {B:Nat→Bytes} {N:Nat} {prs:List Pr} (hN:N≤4096) (hN0:0 < N) (h:okUp prs) :
  RiseS B N 0 (shareL 0 (fillL 0 (prs.map prE))) prs []∧mostN (shareL 0 (fillL 0 (prs.map prE))).length≤mostP prs∧∀ e∈prs.map prE,EOk N 0 e:=by
 have hnb:Nb B N 0 (prs.map prE) prs []:=Nb.zero.2 ⟨rfl,rfl⟩
 have he:=hnb.eok hN hN0 h.1
 have hF:=Filled.of he (hnb.rise h.2)
 refine ⟨⟨hF.ok,hF.two,by rw [hF.flat]; exact hnb⟩,?_,he⟩
 by_cases h0:prs=[]
 ·subst h0
  show mostN 0≤0
  rw [mostN_small (by omega)]
  exact Nat.le_refl _
 ·unfold mostP
  rw [if_neg h0]
  have hc:=hF.count
  rw [bytes_es] at hc
  exact mostN_mono _ _ _ (Nat.le_refl _) hc
end Go.Proofs.YtgkofgifoiinkaaGreat
namespace Go.Proofs.YtgkofgifoiinkaaGreat
open Go.RowKit
def BuildsF (w0:World) (tb db pb fr:Nat) (D:Dv) (ps:List Pg) (S0:Nat→Prop) (ls:List Pr) (e:Ending) (w':World):Prop :=
 (¬ okUp ls∧e = .returned (.tuple #[.int .i64 0,err 1])∧Below w0.heap.size w0 w') ∨
 (okUp ls∧∃ (i:Nat) (BL:List Bytes) (root':Int) (pgs':List Nat) (S':Nat→Prop),e = .returned (.tuple #[.int .i64 (if (writesP fr D ((placeT ps i).zip BL)).2=0 then root' else 0),err (writesP fr D ((placeT ps i).zip BL)).2])∧Step S0 w0 w' S'∧(∀ j,j < i→leastFree (tdones j ps)≠none)∧BL.length=i∧(∀ b∈BL,b.length=512)∧i≤mostP ls ∧
  TrS w' tb db pb fr (writesP fr D ((placeT ps i).zip BL)).1 (endL (tdones i ps) ⟨placeT ps i,BL,[]⟩ (writesP fr D ((placeT ps i).zip BL)).2) S'∧Rt (ovr (blkOf D fr) ((placeT ps i).zip BL)) ps.length root' ls pgs'∧pgs'.Perm (placeT ps i))
set_option maxRecDepth 100000 in
set_option maxHeartbeats 8000000 in
theorem tbuildf_any {w:World} {tb db pb fr n:Nat} {D:Dv} {ps:List Pg} {S:Nat→Prop} {lv:Value} {ls:List Pr} (h:TrS w tb db pb fr D ps S) (ho:D.on=true) (hle:fr≤4096) (hu:Upto D n) (hn:n≤4000000000) (hl:Rd kdPr w S lv ls) (hfew:ls.length≤100000) (hfree:okUp ls→mostP ls≤freeP ps) (hmost:okUp ls→mostP ls≤4000) :
  Calls Tryz.prog 105 #[ptr tb,lv] w (BuildsF w tb db pb fr D ps S ls):=by
 have hS:∀ q,S q→q < w.heap.size:=h.lt
 obtain ⟨la,lc,rfl,_⟩:=hl.shape
 obtain ⟨ln,hln⟩:∃ ln,ln=ls.length:=⟨_,rfl⟩
 obtain ⟨inf,z,hi,hz,hsz,hzs,hby⟩:=ent_ty.info
 obtain ⟨w1,hmk,o1,g1⟩:=run_make_full (P:=Tryz.prog) w 0 177 197 inf z 3 ent_ty.slice hi hz hsz .i64 .i64 ln (Nat.le_trans (Nat.mul_le_mul hby (show ln≤1000000 by omega)) (by decide)) (by unfold maxLen; omega) (Nat.zero_le _)
 have hzl:z.cells.toList.length=kdEn.sz:=by simpa using hzs
 have hfl:(madeCells z.cells (ln*3)).toList=(List.replicate ln z.cells.toList).flatten:=by
  have:=made_flat z.cells (by rw [hzs]; exact kdEn.pos) ln
  rwa [hzs] at this
 have M0:Md kdEn 197 w1 (fun q=>S q∨q=w.heap.size) (.slice (some ⟨w.heap.size,0,none⟩) ln ln) ln z.cells.toList [] :=
  Md.start (by rw [← hfl]; exact o1) hzl (fun q hq=>.inr (by simpa [Value.ownBlock] using hq.symm))
 have hb1:Below w.heap.size w w1:=(Below.refl _ _).grown g1 (Nat.le_refl _) (fun _ h=>by cases h)
 rw [← hln] at hl hfew ⊢
 have HB:=Lib.hid (anZ hb1 (anZ hl (anZ M0 (anZ hln (anZ hS hzl)))))
 have HC:=Lib.hid (anZ h (anZ ho (anZ hle (anZ hu (anZ hn (anZ hfree hmost))))))
 clear h ho hle hu hn hfree hmost hl hS g1 o1 M0 hi hz hsz hzs hby hfl hzl hln hb1
 go_enter Tryz.func105,Tryz.ntmps105
 go_wp2
 go_loopw [17] (fun i wr=>∃ j:Nat,j≤ln∧i = .int .i64 (j:Int)∧okUp (ls.take j)∧Md kdEn 197 wr (fun q=>S q∨q=w.heap.size) (.slice (some ⟨w.heap.size,0,none⟩) ln ln) ln z.cells.toList ((ls.take j).map prE)∧Below w.heap.size w wr) (fun i _=>ln-(intOf i).toNat)
 case atStart=>exact ⟨0,Nat.zero_le _,rfl,by rw [List.take_zero]; exact okUp_nil,HB.out.2.2.1,HB.out.1⟩
 case round =>
  obtain ⟨j,hj,rfl,hok,hM,hbw⟩:=hrel
  obtain ⟨-,hl, -,hln,hS,hzl⟩:=HB.out
  by_cases hlt:j < ln
  ·obtain ⟨p,hp⟩:∃ p,ls[j]? = some p:=⟨_,List.getElem?_eq_getElem (by omega)⟩
   have h':=hl.step (S':=fun q=>S q∨q=w.heap.size) ⟨Only.of_below hbw S,fun q hq=>hq.elim .inl fun e=>.inr (by omega)⟩
   obtain ⟨g,o,cap,ka,kc,va,vc,e0,hg,k0,k1,bk,bv⟩:=h'.par hp
   rw [← hln] at e0
   simp only [Value.slice.injEq] at e0
   obtain ⟨rfl, -,rfl⟩:=e0
   have hil:(j:Int) < (ln:Int):=by omega
   have hr0:(0:Int)≤(j:Int):=by omega
   obtain ⟨pkn,hpk⟩:∃ x,x=p.1.length:=⟨_,rfl⟩
   obtain ⟨pvn,hpv⟩:∃ x,x=p.2.length:=⟨_,rfl⟩
   rw [← hpk] at k0 bk
   rw [← hpv] at k1 bv
   have hbb:Below wr.heap.size wr (wr.alloc (.cells #[.slice ka pkn kc, .slice va pvn vc] 68)):=(Below.refl _ _).alloc (Nat.le_refl _) _
   have CB:=Cel.new wr #[.slice ka pkn kc, .slice va pvn vc] 68
   have HP:=Lib.hid (anZ hp (anZ hpk (anZ hpv (anZ hok (anZ hM (anZ hbw (anZ hbb (anZ CB (anZ bk (anZ bv h'))))))))))
   clear hl hln hS hzl hok hM hbw hp hpk hpv h' hbb CB bk bv
   go_upto_region 7 with fail
   obtain ⟨bx,hbx⟩:∃ bx,bx=wr.heap.size:=⟨_,rfl⟩
   rw [← hbx]
   have HX:=Lib.hid hbx
   clear hbx
   generalize wr.alloc (.cells #[.slice ka pkn kc, .slice va pvn vc] 68)=wb at *
   go_cut [47] from 18 to 56 (fun t47 wx=>∃ b,t47 = .bool b∧(b=true→¬ okUp ls)∧(b=false→PrOk p∧okUp (ls.take (j+1)))∧Below wb.heap.size wb wx)
   case first=>as_aux_lemma =>
    obtain ⟨hp,hpk,hpv,hok,hM,hbw,hbb,CB,bk,bv,h'⟩:=HP.out
    rw [← HX.out] at CB
    obtain ⟨-, -, -,hln, -, -⟩:=HB.out
    have c0:=CB.cell 0
    have c1:=CB.cell 1
    have bk':=(bk.step (Step.of_below hbb _)).1
    have bv':=(bv.step (Step.of_below hbb _)).1
    have K1:=fun m=>mayKey_any (wb.drewN m) (bk'.drewN m)
    have V1:=fun m=>mayValue_any (wb.drewN m) (bv'.drewN m)
    have hno:(mayK p.1=false∨mayV p.2=false)→¬ okUp ls:=fun hm hu=>by
     have h1:=prOk_may.1 (hu.1 p (List.mem_of_getElem? hp))
     rcases hm with hm | hm
     ·rw [h1.1] at hm; cases hm
     ·rw [h1.2] at hm; cases hm
    rcases hk:mayK p.1 with _ | _
    ·simp only [hk] at K1
     have K2:=Lib.hid K1
     have HN:=Lib.hid (hno (.inl hk))
     clear hp hpk hpv hok hM hbw hbb CB bk bv h' hln bk' bv' K1 V1 hno hk c1
     go_wp2_with fail
     go_quiet ((go_at_call 130; exact quiet_left (K2.out _)))
     go_wp2_with fail
     go_meet
     case rel=>exact ⟨true,rfl,fun _=>HN.out,(fun h=>by cases h),below_drewN (Below.refl _ _) _⟩
    rcases hv:mayV p.2 with _ | _
    ·simp only [hk] at K1
     simp only [hv] at V1
     have K2:=Lib.hid K1
     have V2:=Lib.hid V1
     have HN:=Lib.hid (hno (.inr hv))
     clear hp hpk hpv hok hM hbw hbb CB bk bv h' hln bk' bv' K1 V1 hno hk hv
     go_wp2_with fail
     go_quiet (first | (go_at_call 130; exact quiet_left (K2.out _)) | (go_at_call 131; exact quiet_left (V2.out _)))
     go_wp2_with fail
     go_meet
     case rel=>exact ⟨true,rfl,fun _=>HN.out,(fun h=>by cases h),below_drewN (Below.refl _ _) _⟩
    simp only [hk] at K1
    simp only [hv] at V1
    have K2:=Lib.hid K1
    have V2:=Lib.hid V1
    have hpo:PrOk p:=prOk_may.2 ⟨hk,hv⟩
    by_cases h0:j=0
    ·have hsx:=okUp_step hok hp hpo (fun q hq=>by omega)
     have hg0:decide (0 < j)=false:=decide_eq_false (by omega)
     have HN:=Lib.hid (anZ hpo hsx)
     clear hp hpk hpv hok hM hbw hbb CB bk bv h' hln bk' bv' K1 V1 hno hk hv hpo hsx h0
     go_wp2_with fail
     go_quiet (first | (go_at_call 130; exact quiet_left (K2.out _)) | (go_at_call 131; exact quiet_left (V2.out _)))
     go_wp2_with fail
     go_meet
     case rel=>exact ⟨false,rfl,(fun h=>by cases h),fun _=>HN.out,below_drewN (Below.refl _ _) _⟩
    ·obtain ⟨m,rfl⟩:∃ m,j=m+1:=⟨j-1,by omega⟩
     obtain ⟨q,hq⟩:∃ q,ls[m]? = some q:=⟨_,List.getElem?_eq_getElem (by omega)⟩
     obtain ⟨g',o',cap',qa,qc,ua,uc,e0',hg',l0,l1,bq,bu⟩:=h'.par hq
     rw [← hln] at e0'
     simp only [Value.slice.injEq,Option.some.injEq,Addr.mk.injEq] at e0'
     obtain ⟨⟨rfl,rfl, -⟩, -,rfl⟩:=e0'
     have l0':=(hbb.cell (p:=⟨g,o+m*2,none⟩) hg').trans l0
     have bq':=(bq.step (Step.of_below hbb _)).1
     have O1:=fun x=>order_cmp (wb.drewN x) (bq'.drewN x) (bk'.drewN x)
     obtain ⟨qkn,hqk⟩:∃ x,x=q.1.length:=⟨_,rfl⟩
     rw [← hqk] at l0' O1
     have hg0:(0:Int) < ((m+1:Nat):Int):=by omega
     have hj1:((m+1:Nat):Int)-1=(m:Int):=by omega
     have hj2:(0:Int)≤(m:Int):=by omega
     have hj3:(m:Int) < (ln:Int):=by omega
     have hyes:cmp q.1 p.1 < 0→PrOk p∧okUp (ls.take (m+1+1)):=fun hc=>⟨hpo,okUp_step hok hp hpo (fun q' _ hq'=>by
      have e:q'=q:=by
       have:ls[m]? = some q':=hq'
       rw [hq] at this
       exact (Option.some.inj this).symm
      rw [e]; exact hc)⟩
     have hnot:¬ cmp q.1 p.1 < 0→¬ okUp ls:=fun hc hu=>hc (okUp_last hu hp (show ls[m+1-1]? = some q from hq) (by omega))
     have HN:=Lib.hid (anZ hyes hnot)
     generalize cmp q.1 p.1=y at *
     have O2:=Lib.hid O1
     by_cases hc:y < 0
     ·have hy:decide ((0:Int)≤y)=false:=decide_eq_false (by omega)
      have HC2:=Lib.hid hc
      clear hp hpk hpv hok hM hbw hbb CB bk bv h' hln bk' bv' K1 V1 hno hk hv hpo h0 hq l0 l1 bq bu bq' O1 hqk hyes hnot hc hg'
      go_wp2_with fail
      go_quiet (first | (go_at_call 130; exact quiet_left (K2.out _)) | (go_at_call 131; exact quiet_left (V2.out _)) | (go_at_call 132; exact quiet_left (O2.out _)))
      go_wp2_with fail
      go_meet
      case rel=>exact ⟨false,rfl,(fun h=>by cases h),fun _=>HN.out.1 HC2.out,below_drewN (Below.refl _ _) _⟩
     ·have hy:decide ((0:Int)≤y)=true:=decide_eq_true (by omega)
      have HC2:=Lib.hid hc
      clear hp hpk hpv hok hM hbw hbb CB bk bv h' hln bk' bv' K1 V1 hno hk hv hpo h0 hq l0 l1 bq bu bq' O1 hqk hyes hnot hc hg'
      go_wp2_with fail
      go_quiet (first | (go_at_call 130; exact quiet_left (K2.out _)) | (go_at_call 131; exact quiet_left (V2.out _)) | (go_at_call 132; exact quiet_left (O2.out _)))
      go_wp2_with fail
      go_meet
      case rel=>exact ⟨true,rfl,fun _=>HN.out.2 HC2.out,(fun h=>by cases h),below_drewN (Below.refl _ _) _⟩
   case rest =>
    obtain ⟨b,rfl,hbt,hbf,hbx⟩:=hcut
    obtain ⟨hp,hpk,hpv,hok,hM,hbw,hbb,CB,bk,bv,h'⟩:=HP.out
    rw [← HX.out] at CB
    have hbx':=hbb.trans (hbx.mono hbb.size)
    rcases b with _ | _
    ·obtain ⟨-, -, -,hln, -,hzl⟩:=HB.out
     obtain ⟨hpo,hsx⟩:=hbf rfl
     have hlen:((ls.take j).map prE).length=j:=by rw [List.length_map,List.length_take]; omega
     obtain ⟨g2,cp,e2,_,hgw,_,_⟩:=hM.shape (by omega)
     simp only [Value.slice.injEq,Option.some.injEq,Addr.mk.injEq] at e2
     obtain ⟨⟨rfl,_⟩,_,_⟩:=e2
     have st:Step (fun q=>S q∨q=w.heap.size) wr wc (fun q=>S q∨q=w.heap.size):=Step.of_below hbx' _
     have hM2:=hM.keep (fun q hq=>hbx'.block q (by
      have h1:w.heap.size=q:=by simpa [Value.ownBlock] using hq
      omega)) st (fun _ h=>h)
     have hN:=hM2.next (by rw [hlen]; exact hlt)
     have hP:=hM2.put (by rw [hlen]; exact hlt) (⟨⟨ka,p.1.length,kc⟩,⟨va,p.2.length,vc⟩,prE p⟩:ET) ⟨by show Bsf wc _ (.slice ka p.1.length kc) p.1; rw [← hpk]; exact bk.step st,by show Bsf wc _ (.slice va p.2.length vc) p.2; rw [← hpv]; exact bv.step st⟩
     rw [hlen] at hN hP
     obtain ⟨u0,hu0⟩:∃ u,z.cells.toList[0]? = some u:=⟨_,List.getElem?_eq_getElem (by rw [hzl]; decide)⟩
     obtain ⟨u1,hu1⟩:∃ u,z.cells.toList[1]? = some u:=⟨_,List.getElem?_eq_getElem (by rw [hzl]; decide)⟩
     obtain ⟨u2,hu2⟩:∃ u,z.cells.toList[2]? = some u:=⟨_,List.getElem?_eq_getElem (by rw [hzl]; decide)⟩
     have n0:wc.cell? ⟨w.heap.size,j*3,none⟩=some u0:=hN.1 0 u0 hu0
     have n1:wc.cell? ⟨w.heap.size,j*3+1,none⟩=some u1:=hN.1 1 u1 hu1
     have n2:wc.cell? ⟨w.heap.size,j*3+2,none⟩=some u2:=hN.1 2 u2 hu2
     have f0:=hN.2 (j*3)
     have f1:=hN.2 (j*3+1)
     have f2:=hN.2 (j*3+2)
     have c0:=(CB.below hbx CB.lt).cell 0
     have c1:=(CB.below hbx CB.lt).cell 1
     have hs:(ls.take (j+1)).map prE=(ls.take j).map prE++[prE p]:=by
      rw [take_snoc hp,List.map_append]
      rfl
     have HR:=Lib.hid (anZ hP.1 (anZ (hbw.trans (hbx'.mono hbw.size)) (anZ hs (anZ hsx (anZ hpk hpv)))))
     clear hp hpk hpv hok hM hbw hbb CB bk bv h' hbx' hbt hbf hbx hln hzl hpo hsx hlen hgw st hM2 hN hP hu0 hu1 hu2 hs
     go_wp2_with fail
     go_roundw
     case rel =>
      obtain ⟨r1,r2,r3,r4,r5,r6⟩:=HR.out
      refine ⟨j+1,by omega,by go_num,r4,?_,?_⟩
      ·rw [r3]
       rw [r5,r6]
       exact r1
      ·exact ((r2.setCell (Nat.le_refl _) _).setCell (Nat.le_refl _) _).setCell (Nat.le_refl _) _
     case measure=>simp [intOf]; omega
    ·have hno:=hbt rfl
     have HR:=Lib.hid (anZ hno (hbw.trans (hbx'.mono hbw.size)))
     clear hp hpk hpv hok hM hbw hbb CB bk bv h' hbx' hbt hbf hbx hno
     go_wp2
     go_ret2
     exact .inl ⟨HR.out.1,rfl,HR.out.2⟩
  ·obtain rfl:j=ln:=by omega
   have hil:¬ (j:Int) < (j:Int):=by omega
   rw [List.take_of_length_le (by omega)] at hok hM
   have hro:=Md.done hM (by rw [List.length_map]; exact hln.symm)
   have hR:Rd kdEn wr S (.slice (some ⟨w.heap.size,0,none⟩) j j) (ls.map prE):=Ro.rd hro (fun q h=>.inl h) (fun q hq h=>by
    have h1:w.heap.size=q:=by simpa [Value.ownBlock] using hq
    have:=hS q h
    omega)
   have NW:=nowhere_any wr
   have HP:=Lib.hid (anZ hR (anZ hok (anZ hbw (anZ hln hS))))
   clear hl hln hS hzl hok hM hbw hro hR
   go_wp2_with fail
   refine NW.mono ?_
   rintro e w2 ⟨rfl,hb2⟩
   clear NW
   obtain ⟨h,ho,hle,hu,hn,hfree,hmost⟩:=HC.out
   replace hfree:=hfree HP.out.2.1
   replace hmost:=hmost HP.out.2.1
   obtain ⟨hR,hok,hbw,hln,hS⟩:=HP.out
   obtain ⟨wb,hwb⟩:∃ wb,wb=w2.heap.size:=⟨_,rfl⟩
   obtain ⟨W3,hW3⟩:∃ W3,W3=w2.alloc (.cells #[ptr tb, .int .i64 (-1), .int .i64 0, .slice none 0 0, .slice none 0 0, .slice none 0 0, .slice none 0 0, .slice none 0 0, .slice none 0 0] 201):=⟨_,rfl⟩
   have hb23:Below w2.heap.size w2 W3:=by rw [hW3]; exact (Below.refl _ _).alloc (Nat.le_refl _) _
   have CW:Cel W3 wb [ptr tb, .int .i64 (-1), .int .i64 0, .slice none 0 0, .slice none 0 0, .slice none 0 0, .slice none 0 0, .slice none 0 0, .slice none 0 0] 201:=by
    rw [hW3,hwb]
    exact Cel.new w2 _ _
   have hz2:=hb2.size
   have hzw:=hbw.size
   have hbr3:=hb2.trans (hb23.mono hb2.size)
   have hb03:=hbw.trans (hbr3.mono hbw.size)
   have st03:Step S w W3 (fun q=>S q∨q=wb):=⟨Only.of_below hb03 S,fun q hq=>hq.elim .inl fun e=>.inr (by omega)⟩
   have str3:Step S wr W3 (fun q=>S q∨q=wb):=⟨Only.of_below hbr3 S,fun q hq=>hq.elim .inl fun e=>.inr (by omega)⟩
   have hS3:∀ q,(S q∨q=wb)→q < W3.heap.size:=fun q hq=>hq.elim (fun hq=>Nat.lt_of_lt_of_le (hS q hq) hb03.size) (fun e=>e ▸ CW.lt)
   obtain ⟨F,G,hA⟩:=h
   have hN:=hA.pgs.few
   have hN0:=hA.pgs.pos
   obtain ⟨q1,q2,q3⟩:=build_leaf (B:=ovr (blkOf D fr) ((placeT ps 0).zip [])) hN hN0 hok
   have FL:Calls Tryz.prog 136 #[.int .i64 0, .slice (some ⟨w.heap.size,0,none⟩) j j] W3 _:=tfilled_any (lvl:=0) (hR.step str3) q3 hS3 (by rw [List.length_map]; omega)
   have HQ:=Lib.hid (anZ q1 (anZ q2 (anZ CW (anZ st03 (anZ hb03 (anZ hN hN0))))))
   have HW:=Lib.hid (anZ hwb (anZ hW3 (anZ hA hz2)))
   rw [hW3] at FL
   clear ho hle hu hn hfree hmost hR hok hbw hln hS hb2 hb23 CW hz2 hzw hbr3 hb03 st03 str3 hS3 hA hN hN0 q1 q2 q3 hwb hW3
   go_wp2_with fail
   refine FL.mono ?_
   rintro e w4 ⟨v,rfl,hv,hb4⟩
   clear FL
   obtain ⟨hwb,hW3,hA,hz0⟩:=HW.out
   obtain ⟨q1,q2,CW,st03,hb03,hN,hN0⟩:=HQ.out
   obtain ⟨h,ho,hle,hu,hn,hfree,hmost⟩:=HC.out
   replace hfree:=hfree HP.out.2.1
   replace hmost:=hmost HP.out.2.1
   obtain ⟨hR,hok,hbw,hln,hS⟩:=HP.out
   rw [← hW3] at hb4
   have hb04:=hb03.trans (hb4.mono hb03.size)
   have hlt:=hA.tree.lt
   have hz2:w.heap.size≤wb:=by
    have h1:=hbw.size
    omega
   have hst:=StAt.begin (top:=⟨-1,0,[],[]⟩) (hA.below hb04) (fun hq=>by have:=hA.lt _ hq; omega) (CW.below hb4 CW.lt) (by omega) (Rd.nil _ _ _) (Bsf.nil _ _)
   have hmL:(shareL 0 (fillL 0 (ls.map prE))).length≤4000:=by
    have:=mostN_le (shareL 0 (fillL 0 (ls.map prE))).length
    omega
   have RS:=rise_any (P:=[]) (i1:=0) (BL:=[]) (X:=[]) (lvl:=0) (ps:=ps) hst hv ho (.inl rfl) (fun _ _ h=>by cases h) (fun _ h=>absurd h (Nat.not_lt_zero _)) rfl q1 (fun _ h=>by cases h) hok.2 hok.1 (by omega) (by omega)
   obtain ⟨va,vc,rfl,_⟩:=hv.shape
   obtain ⟨vn,hvn⟩:∃ vn,vn=((shareL 0 (fillL 0 (ls.map prE))).map (mkN 0)).length:=⟨_,rfl⟩
   rw [← hvn] at RS ⊢
   have HV:=Lib.hid (anZ (st03.bel hb4) (anZ q2 hN))
   rw [hwb] at RS
   clear hwb hW3 hA hz0 q1 q2 CW st03 hb03 hN hN0 h ho hle hu hn hfree hmost hR hok hbw hln hS hb4 hb04 hlt hz2 hst hmL hv hvn
   go_wp2_with fail
   refine RS.mono ?_
   rintro e w5 ⟨i2,BL',S5,tv5,bv5,h5,st5,in5,hf5,hB5,h512',hi5,(⟨root',pgs',rfl,hrt',hperm'⟩ | ⟨hlt5,hnone,rfl⟩)⟩
   ·clear RS
    rw [Nat.zero_add] at h5 hf5 hrt'
    rw [List.nil_append] at h5 hrt'
    obtain ⟨h,ho,hle,hu,hn,hfree,hmost⟩:=HC.out
    replace hfree:=hfree HP.out.2.1
    replace hmost:=hmost HP.out.2.1
    have hroom:=h.room
    have hN:=HV.out.2.2
    have hq2:=HV.out.2.1
    have E:=end_any' (c:=0) (root:=root') (n:=n) ⟨_,_,_,_,_,_,_,h5⟩ (by rw [placeT_length]; exact hB5) h512' (fun t ht=>by have:=placeT_lt hf5 ht; omega) (by omega) hu (by show n+(placeT ps i2).length < _; rw [placeT_length]; omega) (Nat.zero_le _)
    rw [(endE_zero fr D _ _ _).1,(endE_zero fr D _ _ _).2] at E
    have h0:=HV.out.1
    rw [HW.out.1] at h0
    have H3:=Lib.hid (anZ (h0.trans st5) (anZ hf5 (anZ hB5 (anZ h512' (anZ (show i2≤mostP ls by omega) (anZ hrt' hperm'))))))
    clear h0 h5 st5 in5 hf5 hB5 h512' hi5 hrt' hperm' hroom hN hq2 h ho hle hu hn hfree hmost
    obtain ⟨cc,hcc⟩:∃ cc,cc=(writesP fr D ((placeT ps i2).zip BL')).2:=⟨_,rfl⟩
    rw [← hcc] at E
    have HCC:=Lib.hid hcc
    clear hcc
    go_wp2_with fail
    refine E.mono ?_
    rintro e w6 ⟨he,S6,h6,st6⟩
    obtain ⟨rr,hrr⟩:∃ rr,rr=(if cc=0 then root' else 0):=⟨_,rfl⟩
    rw [← hrr] at he
    have HRR:=Lib.hid hrr
    clear hrr
    subst he
    clear E
    have H4:=Lib.hid (anZ h6 st6)
    clear h6 st6
    go_wp2
    go_ret2
    obtain ⟨st5,hf5,hB5,h512',hi5,hrt',hperm'⟩:=H3.out
    have hrr:=HRR.out
    clear HRR
    subst hrr
    have hcc:=HCC.out
    clear HCC
    subst hcc
    have h6:=H4.out.1
    exact .inr ⟨HP.out.2.1,i2,BL',root',pgs',S6,rfl,st5.trans H4.out.2,hf5,hB5,h512',hi5,h6,hrt',hperm'⟩
   ·exfalso
    obtain ⟨h,ho,hle,hu,hn,hfree,hmost⟩:=HC.out
    replace hfree:=hfree HP.out.2.1
    replace hmost:=hmost HP.out.2.1
    rw [Nat.zero_add] at hf5 hnone
    have h1:=free_none hnone
    have h2:=free_tdones hf5
    have h3:=HV.out.2.1
    omega
end Go.Proofs.YtgkofgifoiinkaaGreat
