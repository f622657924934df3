/- The nodes that are gone through below a node: their pairs in a span, their pages; what one that goes through them holds; no condition. -/
import Derived.Test.YtgkofgifoiinkaaGreatN13
import Derived.Test.YtgkofgifoiinkaaGreatN17
import Derived.Test.YtgkofgifoiinkaaGreatN02
import Derived.Maps.OwnSet
import Derived.Maps.StringElems
import Derived.Maps.RangeWalk
import Derived.Sort.KeysCollected
import Derived.Test.YtgkofgifoiinkaaGreatN12
import Derived.Test.YtgkofgifoiinkaaGreatN14
namespace Go.Proofs.YtgkofgifoiinkaaGreat
open Go.RowKit
structure Wr where
 key:Bytes
 val:Bytes
 gone:Bool
def WrOk (x:Wr):Prop:=((1≤x.key.length∧x.key.length≤32)∧x.val.length≤128)∧(x.gone=true→x.val=[])
instance (x:Wr):Decidable (WrOk x):=by unfold WrOk; infer_instance
def ComOk (l:List Wr):Prop:=(∀ x∈l,WrOk x)∧(l.map Wr.key).Nodup
instance (l:List Wr):Decidable (ComOk l):=by unfold ComOk; infer_instance
def doneW (P:List Pr) (x:Wr):List Pr:=if x.gone=true then cutP P x.key else putP P x.key x.val
def doneC (P:List Pr) (l:List Wr):List Pr:=l.foldl doneW P
theorem doneC_append (P:List Pr) (a b:List Wr):doneC P (a++b)=doneC (doneC P a) b:=List.foldl_append ..
theorem doneC_snoc (P:List Pr) (l:List Wr) {j:Nat} {x:Wr} (h:l[j]? = some x):doneC P (l.take (j+1))=doneW (doneC P (l.take j)) x:=by
 rw [List.take_add_one,h,doneC_append]
 rfl
theorem lookP_cons (p:Pr) (l:List Pr) (k:Bytes):lookP (p::l) k=if p.1=k then some p.2 else lookP l k:=by
 unfold lookP
 by_cases h:p.1=k
 ·rw [if_pos h,List.find?_cons_of_pos (by simpa using h)]
  rfl
 ·rw [if_neg h,List.find?_cons_of_neg (by simpa using h)]
theorem lookP_far {p:Pr} {l:List Pr} {k:Bytes} (hr:RiseP (p::l)) (h:¬ cmp p.1 k < 0) (hne:p.1≠k):lookP (p::l) k=none:=by
 have hk:cmp k p.1 < 0:=pr_turn h hne
 refine lookP_none fun q hq=>?_
 rcases List.mem_cons.1 hq with rfl | hq
 ·exact hne
 ·have:=(List.pairwise_cons.1 hr).1 q hq
  exact (cmp_ne (cmp_ltt hk this)).symm
theorem lookP_put {k v:Bytes}:∀ {l:List Pr},RiseP l→∀ x,lookP (putP l k v) x=if x=k then some v else lookP l x
 | [],_,x=>by
  show lookP [(k,v)] x=_
  rw [lookP_cons]
  by_cases h:x=k
  ·rw [if_pos h,if_pos h.symm]
  ·rw [if_neg h,if_neg (Ne.symm h)]
 | p::r,hr,x=>by
  unfold putP
  have hr2:=(List.pairwise_cons.1 hr).2
  split
  ·rename_i hc
   rw [lookP_cons,lookP_put hr2 x,lookP_cons]
   by_cases h:x=k
   ·subst h
    rw [if_neg (cmp_ne hc),if_pos rfl,if_pos rfl]
   ·rw [if_neg h,if_neg h]
  ·rename_i hc
   split
   ·rename_i he
    rw [lookP_cons,lookP_cons]
    by_cases h:x=k
    ·rw [if_pos h,if_pos h.symm]
    ·rw [if_neg h,if_neg (Ne.symm h),if_neg (fun e=>h (e.symm.trans he))]
   ·rename_i he
    rw [lookP_cons]
    by_cases h:x=k
    ·rw [if_pos h,if_pos h.symm]
    ·rw [if_neg h,if_neg (Ne.symm h)]
theorem lookP_cut (l:List Pr) (k x:Bytes):lookP (cutP l k) x=if x=k then none else lookP l x:=by
 induction l with
 | nil=>show none=_; split <;> rfl
 | cons p r ih =>
  unfold cutP at ih ⊢
  by_cases hp:p.1=k
  ·rw [List.filter_cons_of_neg (by simpa using hp),ih,lookP_cons]
   by_cases h:x=k
   ·rw [if_pos h,if_pos h]
   ·rw [if_neg h,if_neg h,if_neg (fun e=>h (e.symm.trans hp))]
  ·rw [List.filter_cons_of_pos (by simpa using hp),lookP_cons,ih,lookP_cons]
   by_cases h:x=k
   ·subst h
    rw [if_neg hp,if_pos rfl,if_pos rfl]
   ·rw [if_neg h,if_neg h]
theorem rise_doneW {P:List Pr} (h:RiseP P) (x:Wr):RiseP (doneW P x):=by
 unfold doneW
 split
 ·exact rise_cutP h
 ·exact rise_putP h
theorem ok_doneW {P:List Pr} (h:okUp P) {x:Wr} (hx:WrOk x):okUp (doneW P x):=by
 refine ⟨fun p hp=>?_,rise_doneW h.2 x⟩
 unfold doneW at hp
 split at hp
 ·exact h.1 p (List.mem_filter.1 hp).1
 ·rcases mem_putP hp with rfl | hp
  ·exact hx.1
  ·exact h.1 p hp
theorem ok_doneC:∀ (l:List Wr) {P:List Pr},okUp P→(∀ x∈l,WrOk x)→okUp (doneC P l)
 | [],_,h,_=>h
 | x::r,P,h,hx=>ok_doneC r (P:=doneW P x) (ok_doneW h (hx x List.mem_cons_self)) fun y hy=>hx y (List.mem_cons_of_mem _ hy)
theorem look_doneW {P:List Pr} (h:RiseP P) (x:Wr) (k:Bytes):lookP (doneW P x) k=if k=x.key then (if x.gone=true then none else some x.val) else lookP P k:=by
 unfold doneW
 split
 ·rename_i hg
  rw [lookP_cut]
 ·rename_i hg
  rw [lookP_put h]
def wasN (P:List Pr) (k:Bytes):Nat:=match lookP P k with | some v=>4+k.length+v.length | none=>0
def wrN (x:Wr):Nat:=if x.gone=true then 0 else 4+x.key.length+x.val.length
def gainW (P:List Pr) (x:Wr):Int:=(wrN x:Int)-(wasN P x.key:Int)
def gainC (P:List Pr) (l:List Wr):Int:=(l.map (gainW P)).sum
theorem bytesP_cons (p:Pr) (l:List Pr):bytesP (p::l)=4+p.1.length+p.2.length+bytesP l:=by simp [bytesP]
theorem bytesP_cut {k:Bytes}:∀ {l:List Pr},RiseP l→(bytesP (cutP l k):Int)=(bytesP l:Int)-(wasN l k:Int)
 | [],_=>by simp [cutP,bytesP,wasN,lookP]
 | p::r,hr=>by
  have hr2:=(List.pairwise_cons.1 hr).2
  by_cases hp:p.1=k
  ·have e:cutP (p::r) k=cutP r k:=by unfold cutP; rw [List.filter_cons_of_neg (by simpa using hp)]
   have hn:lookP r k=none:=lookP_none fun q hq=>by
    have:=(List.pairwise_cons.1 hr).1 q hq
    rw [hp] at this
    exact (cmp_ne this).symm
   rw [e,cutP_none hn,bytesP_cons]
   have:wasN (p::r) k=4+k.length+p.2.length:=by unfold wasN; rw [lookP_cons,if_pos hp]
   rw [this,hp]
   omega
  ·have e:cutP (p::r) k=p::cutP r k:=by unfold cutP; rw [List.filter_cons_of_pos (by simpa using hp)]
   have ih:=bytesP_cut (k:=k) hr2
   have:wasN (p::r) k=wasN r k:=by unfold wasN; rw [lookP_cons,if_neg hp]
   rw [e,bytesP_cons,bytesP_cons,this]
   omega
theorem bytesP_put {k v:Bytes}:∀ {l:List Pr},RiseP l→(bytesP (putP l k v):Int)=(bytesP l:Int)+(4+k.length+v.length:Nat)-(wasN l k:Int)
 | [],_=>by simp [putP,bytesP,wasN,lookP]
 | p::r,hr=>by
  have hr2:=(List.pairwise_cons.1 hr).2
  unfold putP
  split
  ·rename_i hc
   have ih:=bytesP_put (k:=k) (v:=v) hr2
   have:wasN (p::r) k=wasN r k:=by unfold wasN; rw [lookP_cons,if_neg (cmp_ne hc)]
   rw [bytesP_cons,bytesP_cons,this]
   omega
  ·rename_i hc
   split
   ·rename_i he
    have:wasN (p::r) k=4+k.length+p.2.length:=by unfold wasN; rw [lookP_cons,if_pos he]
    rw [bytesP_cons,bytesP_cons,this,he]
    simp only
    omega
   ·rename_i he
    have:wasN (p::r) k=0:=by unfold wasN; rw [lookP_far hr hc he]
    rw [bytesP_cons,bytesP_cons,this]
    simp only
    omega
theorem bytes_doneW {P:List Pr} (h:RiseP P) (x:Wr):(bytesP (doneW P x):Int)=(bytesP P:Int)+gainW P x:=by
 unfold doneW gainW wrN
 split
 ·rw [bytesP_cut h]
  omega
 ·rw [bytesP_put h]
  omega
theorem gain_other {P:List Pr} (h:RiseP P) {x y:Wr} (hne:x.key≠y.key):gainW (doneW P y) x=gainW P x:=by
 unfold gainW wasN
 rw [look_doneW h,if_neg hne]
theorem gainC_other {P:List Pr} (h:RiseP P) {y:Wr}:∀ {l:List Wr},y.key ∉ l.map Wr.key→gainC (doneW P y) l=gainC P l
 | [],_=>rfl
 | x::r,hn=>by
  rw [List.map_cons,List.mem_cons,not_or] at hn
  have ih:=gainC_other h (l:=r) hn.2
  unfold gainC at ih ⊢
  rw [List.map_cons,List.map_cons,List.sum_cons,List.sum_cons,ih,gain_other h (Ne.symm hn.1)]
theorem bytes_doneC:∀ {l:List Wr} {P:List Pr},RiseP P→(l.map Wr.key).Nodup→(bytesP (doneC P l):Int)=(bytesP P:Int)+gainC P l
 | [],P,_,_=>by show _=_+0; rw [Int.add_zero]; rfl
 | x::r,P,h,hn=>by
  rw [List.map_cons,List.nodup_cons] at hn
  have ih:=bytes_doneC (l:=r) (P:=doneW P x) (rise_doneW h x) hn.2
  have e:doneC P (x::r)=doneC (doneW P x) r:=rfl
  rw [e,ih,bytes_doneW h,gainC_other h hn.1]
  unfold gainC
  rw [List.map_cons,List.sum_cons]
  omega
theorem gainC_snoc (P:List Pr) {l:List Wr} {j:Nat} {x:Wr} (h:l[j]? = some x):gainC P (l.take (j+1))=gainC P (l.take j)+gainW P x:=by
 unfold gainC
 rw [List.take_add_one,h]
 simp
theorem wasN_le {P:List Pr} (h:∀ p∈P,PrOk p) (k:Bytes):wasN P k≤164:=by
 unfold wasN
 split
 ·rename_i v hv
  unfold lookP at hv
  obtain ⟨p,hp,rfl⟩:=Option.map_eq_some_iff.1 hv
  have h1:=h p (List.mem_of_find?_eq_some hp)
  have h2:p.1=k:=by simpa using List.find?_some hp
  have:=h1.1.2
  have:=h1.2
  rw [← h2]
  omega
 ·omega
theorem wrN_le {x:Wr} (h:WrOk x):wrN x≤164:=by
 have:=h.1.1.2
 have:=h.1.2
 unfold wrN
 split <;> omega
theorem bytesP_max {ls:List Pr} (h:∀ p∈ls,PrOk p):bytesP ls≤164*ls.length:=by
 unfold bytesP
 induction ls with
 | nil=>exact Nat.le_refl _
 | cons a t ih =>
  have h2:=ih fun p hp=>h p (List.mem_cons_of_mem _ hp)
  obtain ⟨⟨_,h4⟩,h5⟩:=h a List.mem_cons_self
  rw [List.map_cons,List.sum_cons,List.length_cons]
  omega
theorem len_bytesP (ls:List Pr):4*ls.length≤bytesP ls:=by
 unfold bytesP
 induction ls with
 | nil=>exact Nat.le_refl _
 | cons a t ih =>
  rw [List.map_cons,List.sum_cons,List.length_cons]
  omega
def encW (x:Wr):Bytes:=UInt8.ofNat x.key.length::(x.key++if x.gone=true then [129] else UInt8.ofNat x.val.length::x.val)
def recL (l:List Wr):Bytes:=l.flatMap encW
theorem recL_append (a b:List Wr):recL (a++b)=recL a++recL b:=List.flatMap_append
theorem recL_snoc {l:List Wr} {j:Nat} {x:Wr} (h:l[j]? = some x):recL (l.take (j+1))=recL (l.take j)++encW x:=by
 rw [List.take_add_one,h,recL_append]
 simp [recL]
theorem recL_cons (x:Wr) (l:List Wr):recL (x::l)=encW x++recL l:=List.flatMap_cons
theorem encW_length {x:Wr} (h:WrOk x):3≤(encW x).length∧(encW x).length≤162:=by
 have h1:=h.1.1
 have h2:=h.1.2
 unfold encW
 split <;> simp <;> omega
theorem recL_length {l:List Wr} (h:∀ x∈l,WrOk x):(recL l).length≤162*l.length:=by
 induction l with
 | nil=>exact Nat.le_refl _
 | cons x r ih =>
  have h1:=(encW_length (h x List.mem_cons_self)).2
  have h2:=ih fun y hy=>h y (List.mem_cons_of_mem _ hy)
  rw [recL_cons,List.length_append,List.length_cons]
  omega
def halfN (n:Nat):Nat:=(n-362) / 2
def roomN (n:Nat):Nat:=if halfN n < 40 then 0 else (halfN n*4 / 5-1)*251
theorem mostN_lin (n:Nat):4*mostN n≤5*(n+1):=by
 induction n using Nat.strongRecOn with
 | ind n ih =>
  by_cases h:n≤1
  ·rw [mostN_small h]; omega
  ·rw [mostN_big (by omega)]
   obtain ⟨m,hm⟩:∃ m,m=2*(n*38) / 503+1:=⟨_,rfl⟩
   rw [← hm]
   by_cases h2:n≤20
   ·by_cases h3:m≤1
    ·rw [mostN_small h3]; omega
    ·rw [mostN_big (by omega),mostN_small (by omega)]
     have hc:m=2∨m=3∨m=4:=by omega
     rcases hc with rfl | rfl | rfl <;> omega
   ·have:=ih m (by omega)
    omega
theorem mostN_tight {n:Nat} (h:32≤n):4*mostN n≤5*n:=by
 rw [mostN_big (by omega)]
 obtain ⟨m,hm⟩:∃ m,m=2*(n*38) / 503+1:=⟨_,rfl⟩
 rw [← hm]
 by_cases h1:41≤n
 ·have:=mostN_lin m
  omega
 ·rw [mostN_big (by omega)]
  obtain ⟨k,hk⟩:∃ k,k=2*(m*38) / 503+1:=⟨_,rfl⟩
  rw [← hk]
  have hc:n=32∨n=33∨n=34∨n=35∨n=36∨n=37∨n=38∨n=39∨n=40:=by omega
  by_cases h2:k≤1
  ·rw [mostN_small h2]
   rcases hc with rfl | rfl | rfl | rfl | rfl | rfl | rfl | rfl | rfl <;> omega
  ·rw [mostN_big (by omega),mostN_small (by omega)]
   rcases hc with rfl | rfl | rfl | rfl | rfl | rfl | rfl | rfl | rfl <;> omega
theorem mostP_room {P:List Pr} {n:Nat} (h:bytesP P≤roomN n) (h40:40≤halfN n):mostP P≤halfN n:=by
 unfold mostP
 split
 ·omega
 ·unfold roomN at h
  rw [if_neg (by omega)] at h
  generalize halfN n=t at *
  generalize bytesP P=b at *
  have h1:2*b / 503+1≤t*4 / 5:=by omega
  have h2:=mostN_mono _ (2*b / 503+1) (t*4 / 5) (Nat.le_refl _) h1
  have h3:=mostN_tight (n:=t*4 / 5) (by omega)
  omega
end Go.Proofs.YtgkofgifoiinkaaGreat
namespace Go.Proofs.YtgkofgifoiinkaaGreat
open Go.RowKit Go.Maps
abbrev strV (l:Bytes):Value:=.string ⟨l.toArray⟩
theorem str_law:Keyed Tryz.prog 9:=string_keyed Tryz.underlying9
theorem key_of {k:Bytes} (h:k.length≤maxLen):keyOf Tryz.prog 9 (strV k)=some (.string k):=by
 have:=Go.WideMaps.keyOf_string_mk (P:=Tryz.prog) (k:=9) Tryz.underlying9 (s:=⟨k.toArray⟩) (by simpa [ByteArray.size] using h)
 simpa using this
def strR:Value→Option (DataW Unit × List MemPlace)
 | .string s=>if s.size≤maxLen then some (.lit (.string s.data.toList),[]) else none
 | _=>none
theorem strR_mk {v:Bytes} (h:v.length≤maxLen):strR (strV v)=some (.lit (.string v),[]):=by
 have h1:(ByteArray.mk v.toArray).size≤maxLen:=by simpa [ByteArray.size] using h
 show (if (ByteArray.mk v.toArray).size≤maxLen then some (.lit (.string v.toArray.toList),[]) else none)=some (DataW.lit (.string v),[])
 rw [if_pos h1]
theorem strR_inv {u:Value} {z:DataW Unit × List MemPlace} (h:strR u=some z):∃ v:Bytes,u=strV v∧z=(.lit (.string v),[]):=by
 unfold strR at h
 split at h
 ·rename_i s
  split at h
  ·cases h
   exact ⟨s.data.toList,by simp [strV],rfl⟩
  ·cases h
 ·cases h
structure MapIs (Dm:DataW Unit) (P:List Pr):Prop where
 has:∀ k,Maps.has Dm (.string k)=(lookP P k).isSome
 at_:∀ k v,lookP P k=some v→∀ zd,Dm.atKey (.string k) zd = .lit (.string v)
structure SMapD (w:World) (mb:Nat) (Dm:DataW Unit) (P:List Pr):Prop where
 own:w.ownsMap Tryz.prog 9 strR mb P.length Dm
 is:MapIs Dm P
 rise:RiseP P
def SMap (w:World) (mb:Nat) (P:List Pr):Prop:=∃ Dm,SMapD w mb Dm P
theorem lookP_mem {P:List Pr} {k:Bytes}:(lookP P k).isSome=true↔k∈P.map Prod.fst:=by
 unfold lookP
 rw [Option.isSome_map,List.find?_isSome]
 simp only [List.mem_map]
 constructor
 ·rintro ⟨p,hp,he⟩
  exact ⟨p,hp,by simpa using he⟩
 ·rintro ⟨p,hp,he⟩
  exact ⟨p,hp,by simpa using he⟩
theorem rise_nodup {P:List Pr} (h:RiseP P):(P.map Prod.fst).Nodup:=by
 unfold List.Nodup
 rw [List.pairwise_map]
 exact h.imp fun hc=>cmp_ne hc
section
variable {w w':World} {mb n:Nat} {Dm:DataW Unit} {P:List Pr} {k v:Bytes}
theorem own_tight (h:w.ownsMap Tryz.prog 9 strR mb n Dm):w.ownsMap Tryz.prog 9 strR mb (Maps.size Dm) Dm:=by
 obtain ⟨es,clock,hb,F,_,rfl⟩:=h
 exact ⟨es,clock,hb,F,by simp [Maps.size,length_sorted],rfl⟩
theorem size_keys (D:DataW Unit):Maps.size D=(strKeys D).length:=by
 cases D <;> simp [Maps.size,strKeys]
theorem MapIs.keys (h:MapIs Dm P) (hr:RiseP P) (ho:w.ownsMap Tryz.prog 9 strR mb n Dm):(P.map Prod.fst).Perm (strKeys Dm):=by
 have hC:Collected Dm (fun _=>false) (P.map Prod.fst):=⟨rise_nodup hr,fun x=>by rw [h.has, ← lookP_mem]; simp⟩
 exact hC.perm ho str_law Tryz.underlying9 fun _=>rfl
theorem MapIs.own (h:MapIs Dm P) (hr:RiseP P) (ho:w.ownsMap Tryz.prog 9 strR mb n Dm):SMapD w mb Dm P:=by
 have h1:=(h.keys hr ho).length_eq
 rw [List.length_map, ← size_keys] at h1
 exact ⟨by rw [h1]; exact own_tight ho,h,hr⟩
theorem MapIs.none:MapIs (.map []) []:=⟨fun _=>rfl,fun _ _ h=>by cases h⟩
theorem MapIs.put (h:MapIs Dm P) (hi:IsMap Dm) (hr:RiseP P):MapIs (Dm.put (.string k) (.lit (.string v))) (putP P k v):=by
 refine ⟨fun x=>?_,fun x u hu zd=>?_⟩
 ·rw [lookP_put hr]
  by_cases e:x=k
  ·subst e
   rw [if_pos rfl,has_put_same hi (show WideAt.IsKeyLit (.string x) from trivial)]
   rfl
  ·rw [if_neg e,has_put_other (by simpa using e),h.has]
 ·rw [lookP_put hr] at hu
  by_cases e:x=k
  ·subst e
   rw [if_pos rfl] at hu
   cases hu
   exact atKey_put_same hi (show WideAt.IsKeyLit (.string x) from trivial) _ _
  ·rw [if_neg e] at hu
   rw [atKey_put_other (by simpa using e)]
   exact h.at_ x u hu zd
theorem MapIs.cut (h:MapIs Dm P):MapIs (Dm.del (.string k)) (cutP P k):=by
 refine ⟨fun x=>?_,fun x u hu zd=>?_⟩
 ·rw [lookP_cut]
  by_cases e:x=k
  ·subst e
   rw [if_pos rfl,has_del_same]
   rfl
  ·rw [if_neg e,has_del_other (by simpa using e),h.has]
 ·rw [lookP_cut] at hu
  by_cases e:x=k
  ·rw [if_pos e] at hu
   cases hu
  ·rw [if_neg e] at hu
   rw [atKey_del_other (by simpa using e)]
   exact h.at_ x u hu zd
theorem SMapD.kept (h:SMapD w mb Dm P) (hk:w'.heap[mb]? = w.heap[mb]?):SMapD w' mb Dm P:=by
 obtain ⟨⟨es,clock,hb,r⟩,h2,h3⟩:=h
 exact ⟨⟨es,clock,hk.trans hb,r⟩,h2,h3⟩
theorem SMap.kept (h:SMap w mb P) (hk:w'.heap[mb]? = w.heap[mb]?):SMap w' mb P:=let ⟨Dm,h⟩:=h; ⟨Dm,h.kept hk⟩
theorem SMap.lt (h:SMap w mb P):mb < w.heap.size:=let ⟨_,h⟩:=h; h.own.lt
theorem SMap.below (h:SMap w mb P) (hb:Below w.heap.size w w'):SMap w' mb P:=h.kept (hb.block mb h.lt)
theorem SMap.rise (h:SMap w mb P):RiseP P:=let ⟨_,h⟩:=h; h.rise
theorem SMap.ne (h:SMap w mb P) {q:Nat} {cs:List Value} {t:TypeId} (hc:Cel w q cs t):q≠mb:=fun e=>by
 obtain ⟨Dm,⟨es,clock,hb,_⟩,_⟩:=h
 subst e
 rw [show w.heap[q]? = _ from hc] at hb
 cases hb
theorem smap_new (w:World):SMap (w.alloc (.map #[] 0)) w.heap.size []:=⟨.map [],World.ownsMap_made _ _ _ _,MapIs.none,List.Pairwise.nil⟩
theorem zero_str:∀ w:World,(zeroValue 9).run Tryz.prog w = .ok (strV []) w:=fun w=>by kernel_rfl
theorem SMap.look (h:SMap w mb P) (hk:k.length≤maxLen):(Instr.lookup 88 (.map (some mb)) (strV k) true).run Tryz.prog w = .ok (.tuple #[strV ((lookP P k).getD []), .bool (lookP P k).isSome]) w:=by
 obtain ⟨Dm,h⟩:=h
 obtain ⟨u,ps,hr,hu⟩:=h.own.look_ok (t:=88) str_law Tryz.underlying88 (zero_str w) (zd:=.lit (.string [])) (zp:=[]) (strR_mk (by decide)) (key_of hk)
 obtain ⟨x,rfl,hx⟩:=strR_inv hu
 have e:x=(lookP P k).getD []:=by
  have h1:=congrArg Prod.fst hx
  simp only at h1
  rcases hl:lookP P k with _ | v0
  ·have h2:Maps.has Dm (.string k)=false:=by rw [h.is.has,hl]; rfl
   rw [atKey_of_not_has h2] at h1
   simpa using h1.symm
  ·rw [h.is.at_ k v0 hl] at h1
   simpa using h1.symm
 rw [hr,h.is.has,e]
theorem SMap.look1 (h:SMap w mb P) (hk:k.length≤maxLen):(Instr.lookup 88 (.map (some mb)) (strV k) false).run Tryz.prog w = .ok (strV ((lookP P k).getD [])) w:=by
 obtain ⟨Dm,h⟩:=h
 obtain ⟨u,ps,hr,hu⟩:=h.own.lookup (t:=88) str_law Tryz.underlying88 (zero_str w) (zd:=.lit (.string [])) (zp:=[]) (strR_mk (by decide)) (key_of hk)
 obtain ⟨x,rfl,hx⟩:=strR_inv hu
 have e:x=(lookP P k).getD []:=by
  have h1:=congrArg Prod.fst hx
  simp only at h1
  rcases hl:lookP P k with _ | v0
  ·have h2:Maps.has Dm (.string k)=false:=by rw [h.is.has,hl]; rfl
   rw [atKey_of_not_has h2] at h1
   simpa using h1.symm
  ·rw [h.is.at_ k v0 hl] at h1
   simpa using h1.symm
 rw [hr,e]
theorem turned_only (h:w.mapTurned w' mb):Only (· = mb) w w':=by
 have g:=h.grown
 exact ⟨g.os,g.tape,g.output,g.size,fun q hq hn=>g.block q hq fun e=>hn (by simpa using e)⟩
theorem SMap.put (h:SMap w mb P) (hk:k.length≤maxLen) (hv:v.length≤maxLen) (hn:P.length < maxLen):∃ w',(Instr.mapUpdate 88 (.map (some mb)) (strV k) (strV v)).run Tryz.prog w = .ok () w'∧SMap w' mb (putP P k v)∧Only (· = mb) w w':=by
 obtain ⟨Dm,h⟩:=h
 obtain ⟨w',h1,h2,h3⟩:=h.own.store (t:=88) str_law Tryz.underlying88 hn (key_of hk) (strR_mk hv)
 exact ⟨w',h1,⟨_,(h.is.put h.own.isMap h.rise).own (rise_putP h.rise) h2⟩,turned_only h3⟩
theorem SMap.cut (h:SMap w mb P) (hk:k.length≤maxLen) (ty:TypeId):∃ w',(Builtin.delete_ #[88,9] ty #[.map (some mb),strV k]).run Tryz.prog w = .ok (.tuple #[]) w'∧SMap w' mb (cutP P k)∧Only (· = mb) w w':=by
 obtain ⟨Dm,h⟩:=h
 obtain ⟨w',h1,h2,h3⟩:=h.own.drop (t:=88) str_law Tryz.underlying88 (key_of hk) ty
 exact ⟨w',h1,⟨_,h.is.cut.own (rise_cutP h.rise) h2⟩,turned_only h3⟩
end
end Go.Proofs.YtgkofgifoiinkaaGreat
namespace Go.Proofs.YtgkofgifoiinkaaGreat
open Go.RowKit
def Md {τ α:Type} (K:Kd τ α) (e:TypeId) (w:World) (S:Nat→Prop) (v:Value) (n:Nat) (zs:List Value) (l:List α):Prop :=
 ∃ ts:List τ,ts.map K.con=l∧l.length≤n∧zs.length=K.sz∧w.ownsRow 0 e K.sz v n (K.cells ts++(List.replicate (n-l.length) zs).flatten)∧(∀ t∈ts,K.ok w S t)∧∀ q,v.ownBlock=some q→S q
section
variable {τ α:Type} {K:Kd τ α} {e:TypeId} {w w':World} {S S':Nat→Prop} {v:Value} {n:Nat} {zs:List Value} {l:List α}
theorem flat_len (n:Nat) (zs:List Value):(List.replicate n zs).flatten.length=n*zs.length:=by
 induction n with
 | zero=>simp
 | succ n ih=>rw [List.replicate_succ,List.flatten_cons,List.length_append,ih,Nat.succ_mul,Nat.add_comm]
theorem Md.start (h:w.ownsRow 0 e K.sz v n (List.replicate n zs).flatten) (hz:zs.length=K.sz) (hS:∀ q,v.ownBlock=some q→S q):Md K e w S v n zs [] :=
 ⟨[],rfl,Nat.zero_le _,hz,by simpa [Kd.cells] using h,(fun _ h=>by cases h),hS⟩
theorem Md.done (h:Md K e w S v n zs l) (hl:l.length=n):Ro K e w S v l:=by
 obtain ⟨ts,h1,h2,h3,h4,h5,h6⟩:=h
 rw [← hl,Nat.sub_self,List.replicate_zero,List.flatten_nil,List.append_nil] at h4
 exact ⟨ts,h1,h4,h5,h6⟩
theorem Md.shape (h:Md K e w S v n zs l) (hn:0 < n):∃ g cap,v = .slice (some ⟨g,0,none⟩) n cap∧S g∧g < w.heap.size∧n≤cap∧cap≤maxLen:=by
 obtain ⟨ts,h1,h2,h3,h4,h5,h6⟩:=h
 rcases h4.2 with ⟨_,h0⟩ | ⟨g,cap,cur,rfl,_,hg,hc,hm,_⟩
 ·omega
 ·exact ⟨g,cap,rfl,h6 g rfl,(Array.getElem?_eq_some_iff.1 hg).1,hc,hm⟩
theorem Md.keep (h:Md K e w S v n zs l) (hk:∀ g,v.ownBlock=some g→w'.heap[g]? = w.heap[g]?) (hs:Step S w w' S') (hi:∀ q,S q→S' q):Md K e w' S' v n zs l:=by
 obtain ⟨ts,h1,h2,h3,h4,h5,h6⟩:=h
 exact ⟨ts,h1,h2,h3,ownsRow_kept h4 hk,fun t ht=>K.step (h5 t ht) hs,fun q hq=>hi q (h6 q hq)⟩
def setAll (w:World) (g:Nat):Nat→List Value→World
 | _,[]=>w
 | o,u::r=>setAll (w.setCell ⟨g,o,none⟩ u) g (o+1) r
theorem setAll_heap {t:TypeId} {fr:Nat × Nat} (g:Nat):∀ (us:List Value) (o:Nat) (w:World) (cur:Array Value),w.heap[g]? = some (.cells cur t fr) →
  ∃ cur':Array Value,(setAll w g o us).heap[g]? = some (.cells cur' t fr)∧cur'.size=cur.size∧(o+us.length≤cur.size→cur'.toList=cur.toList.take o++us++cur.toList.drop (o+us.length))
 | [],o,w,cur,h=>⟨cur,h,rfl,fun _=>by simp⟩
 | u::r,o,w,cur,h=>by
  obtain ⟨cur',h1,h2,h3⟩:=setAll_heap g r (o+1) (w.setCell ⟨g,o,none⟩ u) (cur.setIfInBounds o u) (Lib.heap_setCell_same h u)
  refine ⟨cur',h1,by simpa using h2,fun hle=>?_⟩
  rw [List.length_cons] at hle
  rw [h3 (by simp; omega),Array.toList_setIfInBounds]
  have ho:o < cur.toList.length:=by simpa using (show o < cur.size by omega)
  rw [List.set_eq_take_append_cons_drop,if_pos ho]
  have hto:(cur.toList.take o).length=o:=by rw [List.length_take]; omega
  have e1:(cur.toList.take o++u::cur.toList.drop (o+1)).take (o+1)=cur.toList.take o++[u]:=by
   rw [List.take_append,hto,List.take_of_length_le (by omega),show o+1-o=1 by omega]
   rfl
  have e2:(cur.toList.take o++u::cur.toList.drop (o+1)).drop (o+1+r.length)=cur.toList.drop (o+1+r.length):=by
   rw [List.drop_append,hto,List.drop_eq_nil_of_le (by omega),List.nil_append,show o+1+r.length-o=r.length+1 by omega,List.drop_succ_cons,List.drop_drop]
  rw [e1,e2,List.append_assoc,List.append_assoc,List.append_assoc,List.length_cons,show o+(r.length+1)=o+1+r.length by omega]
  rfl
theorem setAll_step {g:Nat} (hg:S g):∀ (us:List Value) (o:Nat) (w:World),Step S w (setAll w g o us) S
 | [],_,w=>Step.refl S w
 | u::r,o,w=>((Step.refl S w).set (p:=⟨g,o,none⟩) hg u).trans (setAll_step hg r (o+1) _)
theorem Md.put {g cap:Nat} (h:Md K e w S (.slice (some ⟨g,0,none⟩) n cap) n zs l) (hl:l.length < n) (t:τ) (ht:K.ok w S t) :
  Md K e (setAll w g (l.length*K.sz) (K.cs t)) S (.slice (some ⟨g,0,none⟩) n cap) n zs (l++[K.con t])∧Step S w (setAll w g (l.length*K.sz) (K.cs t)) S:=by
 obtain ⟨ts,h1,h2,h3,h4,h5,h6⟩:=h
 have hgS:=h6 g rfl
 have hst:=setAll_step hgS (K.cs t) (l.length*K.sz) w
 refine ⟨⟨ts++[t],by rw [List.map_append,h1]; rfl,by rw [List.length_append]; exact hl,h3,?_,fun t' ht'=>?_,h6⟩,hst⟩
 ·rcases h4.2 with ⟨h0,_⟩ | ⟨g',cap',cur,e0,hb,hg,hc,hm,hsz,htk⟩
  ·cases h0
  ·simp only [Value.slice.injEq,Option.some.injEq,Addr.mk.injEq] at e0
   obtain ⟨⟨rfl,_⟩,_,rfl⟩:=e0
   obtain ⟨cur',c1,c2,c3⟩:=setAll_heap g (K.cs t) (l.length*K.sz) w cur hg
   have htl:ts.length=l.length:=by have:=congrArg List.length h1; simpa using this
   have hA:(K.cells ts).length=l.length*K.sz:=by rw [K.cells_length,htl]
   obtain ⟨m,hm2⟩:∃ m,n-l.length=m+1:=⟨n-l.length-1,by omega⟩
   have hB:(List.replicate (n-l.length) zs).flatten=zs++(List.replicate m zs).flatten:=by rw [hm2,List.replicate_succ,List.flatten_cons]
   rw [hB] at htk
   have hL:cur.toList=K.cells ts++(zs++((List.replicate m zs).flatten++cur.toList.drop (n*K.sz))):=by
    conv=>lhs; rw [← List.take_append_drop (n*K.sz) cur.toList,htk]
    simp only [List.append_assoc]
   have hle:l.length*K.sz+(K.cs t).length≤cur.size:=by
    rw [K.len,hsz, ← Nat.succ_mul]
    exact Nat.mul_le_mul_right _ (by omega)
   have h7:=c3 hle
   have t1:cur.toList.take (l.length*K.sz)=K.cells ts:=by rw [hL,List.take_left' hA]
   have t2:cur.toList.drop (l.length*K.sz+(K.cs t).length)=(List.replicate m zs).flatten++cur.toList.drop (n*K.sz):=by
    rw [K.len, ← List.drop_drop]
    conv=>lhs; rw [hL]
    rw [List.drop_left' hA,List.drop_left' h3]
   rw [t1,t2] at h7
   have hlen:(K.cells ts++K.cs t++(List.replicate m zs).flatten).length=n*K.sz:=by
    rw [List.length_append,List.length_append,hA,K.len,flat_len,h3, ← Nat.succ_mul, ← Nat.add_mul]
    congr 1
    omega
   have e9:K.cells (ts++[t])++(List.replicate (n-(l++[K.con t]).length) zs).flatten=K.cells ts++K.cs t++(List.replicate m zs).flatten:=by
    rw [K.cells_append,show n-(l++[K.con t]).length=m by rw [List.length_append]; simp only [List.length_singleton]; omega]
    simp [Kd.cells]
   rw [e9]
   refine ⟨hlen, .inr ⟨g,cap,cur',rfl,Nat.zero_le _,c1,hc,hm,c2.trans hsz,?_⟩⟩
   rw [h7, ← List.append_assoc,List.take_left' hlen]
 ·rcases List.mem_append.1 ht' with hh | hh
  ·exact K.step (h5 t' hh) hst
  ·rw [List.mem_singleton.1 hh]
   exact K.step ht hst
theorem made_flat (z:Array Value) (hz:0 < z.size) (n:Nat):(madeCells z (n*z.size)).toList=(List.replicate n z.toList).flatten:=by
 induction n with
 | zero=>simp [madeCells]
 | succ n ih =>
  have e1:(madeCells z ((n+1)*z.size)).toList=(madeCells z (n*z.size)).toList++z.toList:=by
   apply List.ext_getElem?
   intro j
   have hl:(madeCells z (n*z.size)).toList.length=n*z.size:=by simp [madeCells]
   rcases Nat.lt_or_ge j (n*z.size) with h1 | h1
   ·rw [List.getElem?_append_left (by omega)]
    have h2:j < (n+1)*z.size:=by rw [Nat.succ_mul]; omega
    simp [madeCells,h1,h2]
   ·rw [List.getElem?_append_right (by omega),hl]
    rcases Nat.lt_or_ge j ((n+1)*z.size) with h2 | h2
    ·have h3:j-n*z.size < z.size:=by rw [Nat.succ_mul] at h2; omega
     have h4:j % z.size=j-n*z.size:=by
      conv=>lhs; rw [show j=(j-n*z.size)+n*z.size by omega]
      rw [Nat.add_mul_mod_self_right,Nat.mod_eq_of_lt h3]
     simp [madeCells,h2,h4,h3,getElem!_pos]
    ·have h3:z.size≤j-n*z.size:=by rw [Nat.succ_mul] at h2; omega
     simp [madeCells,h2,h3]
  rw [e1,ih,List.replicate_succ',List.flatten_append,List.flatten_singleton]
theorem Md.next {g cap:Nat} (h:Md K e w S (.slice (some ⟨g,0,none⟩) n cap) n zs l) (hl:l.length < n):(∀ (j:Nat) (u:Value),zs[j]? = some u→w.cell? ⟨g,l.length*K.sz+j,none⟩=some u)∧∀ j,w.frozen? ⟨g,j,none⟩=false:=by
 obtain ⟨ts,h1,h2,h3,h4,h5,h6⟩:=h
 rcases h4.2 with ⟨h0,_⟩ | ⟨g',cap',cur,e0,hb,hg,hc,hm,hsz,htk⟩
 ·cases h0
 ·simp only [Value.slice.injEq,Option.some.injEq,Addr.mk.injEq] at e0
  obtain ⟨⟨rfl,_⟩,_,rfl⟩:=e0
  refine ⟨fun j u hu=>?_,fun j=>by simp [World.frozen?,hg]⟩
  have htl:ts.length=l.length:=by have:=congrArg List.length h1; simpa using this
  have hA:(K.cells ts).length=l.length*K.sz:=by rw [K.cells_length,htl]
  obtain ⟨m,hm2⟩:∃ m,n-l.length=m+1:=⟨n-l.length-1,by omega⟩
  have hj:=(List.getElem?_eq_some_iff.1 hu).1
  have h7:(K.cells ts++(List.replicate (n-l.length) zs).flatten)[l.length*K.sz+j]? = some u:=by
   rw [List.getElem?_append_right (by omega),hA,show l.length*K.sz+j-l.length*K.sz=j by omega,hm2,List.replicate_succ,List.flatten_cons,List.getElem?_append_left hj]
   exact hu
  rw [← htk,List.getElem?_take] at h7
  split at h7
  ·simp only [World.cell?,hg]
   simpa using h7
  ·cases h7
end
end Go.Proofs.YtgkofgifoiinkaaGreat
namespace Go.Proofs.YtgkofgifoiinkaaGreat
open Go.RowKit
def prOf (e:En):Pr:=(e.key,e.val)
def nodePrs (lvl:Nat) (es:List En):List Pr:=if lvl=0 then es.map prOf else []
set_option maxRecDepth 100000 in
set_option maxHeartbeats 4000000 in
theorem npairs_any {p:Int} {lvl:Nat} {ev tv:Value} {S:Nat→Prop} {es:List En} (w:World) (h:Rd kdEn w S ev es) (hn:es.length≤1000000) (hS:∀ q,S q→q < w.heap.size) :
  Calls Tryz.prog 149 #[ndv p (lvl:Int) ev tv] w fun e w'=>∃ v,e = .returned v∧Rd kdPr w' S v (nodePrs lvl es)∧Below w.heap.size w w':=by
 obtain ⟨ea,ec,rfl,_⟩:=h.shape
 obtain ⟨en,hen⟩:∃ en,en=es.length:=⟨_,rfl⟩
 rw [← hen] at hn
 have hb:Below w.heap.size w (w.alloc (.cells #[.int .i64 p, .int .i64 (lvl:Int), .slice ea en ec,tv] 179)):=(Below.refl _ _).alloc (Nat.le_refl _) _
 have C:Cel (w.alloc (.cells #[.int .i64 p, .int .i64 (lvl:Int), .slice ea en ec,tv] 179)) w.heap.size [.int .i64 p, .int .i64 (lvl:Int), .slice ea en ec,tv] 179:=Cel.new w _ _
 have c1:=C.cell 1
 have c2:=C.cell 2
 rw [← hen]
 by_cases h0:lvl=0
 ·have hres:nodePrs lvl es=es.map prOf:=if_pos h0
  rw [hres]
  subst h0
  obtain ⟨inf,z,hi,hz,hsz,hzs,hby⟩:=par_ty.info
  obtain ⟨w1,hmk,o1,g1⟩:=run_make_full (P:=Tryz.prog) (w.alloc (.cells #[.int .i64 p, .int .i64 ((0:Nat):Int), .slice ea en ec,tv] 179)) 0 36 68 inf z 2 par_ty.slice hi hz hsz .i64 .i64 en (Nat.le_trans (Nat.mul_le_mul hby hn) (by decide)) (by unfold maxLen; omega) (Nat.zero_le _)
  have hzl:z.cells.toList.length=kdPr.sz:=by simpa using hzs
  have hfl:(madeCells z.cells (en*2)).toList=(List.replicate en z.cells.toList).flatten:=by
   have:=made_flat z.cells (by rw [hzs]; exact kdPr.pos) en
   rwa [hzs] at this
  have hz1:(w.alloc (.cells #[.int .i64 p, .int .i64 ((0:Nat):Int), .slice ea en ec,tv] 179)).heap.size=w.heap.size+1:=by simp
  rw [hz1,show ((0:Nat):Int)=0 from rfl] at hmk
  rw [hz1] at o1
  have M0:Md kdPr 68 w1 (fun q=>S q∨q=w.heap.size+1) (.slice (some ⟨w.heap.size+1,0,none⟩) en en) en z.cells.toList [] :=
   Md.start (by rw [← hfl]; exact o1) hzl (fun q hq=>.inr (by simpa [Value.ownBlock] using hq.symm))
  have hb1:Below w.heap.size w w1:=hb.grown g1 (by omega) (fun _ h=>by cases h)
  have k2:w1.cell? ⟨w.heap.size,2,none⟩=some (.slice ea en ec):=by
   have hbg:Below (w.heap.size+1) (w.alloc (.cells #[.int .i64 p, .int .i64 ((0:Nat):Int), .slice ea en ec,tv] 179)) w1:=by
    have:=(Below.refl (w.alloc (.cells #[.int .i64 p, .int .i64 ((0:Nat):Int), .slice ea en ec,tv] 179)).heap.size _).grown g1 (Nat.le_refl _) (fun _ h=>by cases h)
    rwa [hz1] at this
   rw [hbg.cell (p:=⟨w.heap.size,2,none⟩) (by simp)]
   exact c2
  have HB:=Lib.hid (anZ hb1 (anZ h (anZ M0 (anZ hen (anZ hS hzl)))))
  clear hb C h hS g1 o1 M0 hi hz hsz hzs hby hres hfl hzl hen hb1 c2
  go_enter Tryz.func149,Tryz.ntmps149
  go_wp2
  go_loopw [16] (fun i wr=>∃ j:Nat,j≤en∧i = .int .i64 j∧Md kdPr 68 wr (fun q=>S q∨q=w.heap.size+1) (.slice (some ⟨w.heap.size+1,0,none⟩) en en) en z.cells.toList ((es.take j).map prOf)∧Below w.heap.size w wr) (fun i _=>en-(intOf i).toNat)
  case atStart=>exact ⟨0,Nat.zero_le _,rfl,HB.out.2.2.1,HB.out.1⟩
  case round =>
   obtain ⟨j,hj,rfl,hM,hbw⟩:=hrel
   have hen:=HB.out.2.2.2.1
   by_cases hlt:j < en
   ·obtain ⟨a,ha⟩:∃ a,es[j]? = some a:=⟨_,List.getElem?_eq_getElem (by omega)⟩
    have hr:=HB.out.2.1.step (S':=fun q=>S q∨q=w.heap.size+1) ⟨Only.of_below hbw S,fun q hq=>hq.elim .inl fun e=>.inr (by omega)⟩
    obtain ⟨g,o,cap,ka,kc,va,vc,e0,hg,c0,c1,c2,hk,hv⟩:=hr.ent ha
    simp only [Value.slice.injEq] at e0
    obtain ⟨rfl,he0,rfl⟩:=e0
    have hl:((es.take j).map prOf).length=j:=by rw [List.length_map,List.length_take]; omega
    have hil:(j:Int) < (en:Int):=by omega
    obtain ⟨g2,cp,e2,_,hgw,_,_⟩:=hM.shape (by omega)
    simp only [Value.slice.injEq,Option.some.injEq,Addr.mk.injEq] at e2
    obtain ⟨⟨rfl,_⟩,_,_⟩:=e2
    have hN:=hM.next (by rw [hl]; exact hlt)
    have hP:=hM.put (by rw [hl]; exact hlt) (⟨⟨ka,a.key.length,kc⟩,⟨va,a.val.length,vc⟩,prOf a⟩:PT) ⟨hk,hv⟩
    rw [hl] at hN hP
    obtain ⟨u0,hu0⟩:∃ u,z.cells.toList[0]? = some u:=⟨_,List.getElem?_eq_getElem (by rw [HB.out.2.2.2.2.2]; decide)⟩
    obtain ⟨u1,hu1⟩:∃ u,z.cells.toList[1]? = some u:=⟨_,List.getElem?_eq_getElem (by rw [HB.out.2.2.2.2.2]; decide)⟩
    have n0:wr.cell? ⟨w.heap.size+1,j*2,none⟩=some u0:=hN.1 0 u0 hu0
    have n1:wr.cell? ⟨w.heap.size+1,j*2+1,none⟩=some u1:=hN.1 1 u1 hu1
    have f0:=hN.2 (j*2)
    have f1:=hN.2 (j*2+1)
    have hs:(es.take (j+1)).map prOf=(es.take j).map prOf++[prOf a]:=by
     rw [List.take_add_one,ha,List.map_append]
     rfl
    have H2:=Lib.hid (anZ hP.1 (anZ hbw (anZ hs hgw)))
    clear hM hN hP hr ha hk hv hbw hu0 hu1
    go_wp2_with fail
    go_roundw
    case rel =>
     refine ⟨j+1,by omega,by go_num,?_,?_⟩
     ·rw [H2.out.2.2.1]
      have hx:Below (w.heap.size+2) ((wr.setCell ⟨w.heap.size+1,j*2,none⟩ (.slice ka a.key.length kc)).setCell ⟨w.heap.size+1,j*2+1,none⟩ (.slice va a.val.length vc)) (((wr.setCell ⟨w.heap.size+1,j*2,none⟩ (.slice ka a.key.length kc)).setCell ⟨w.heap.size+1,j*2+1,none⟩ (.slice va a.val.length vc)).alloc (.cells #[.slice ka a.key.length kc, .slice va a.val.length vc, .int .i64 (a.page:Nat)] 197)):=(Below.refl _ _).alloc (by have:=H2.out.2.2.2; simp; omega) _
      exact H2.out.1.keep (fun q hq=>hx.block _ (by
       have h1:w.heap.size+1=q:=by simpa [Value.ownBlock] using hq
       omega)) ⟨(Only.refl _ _).alloc _,fun q hq=>.inl hq⟩ (fun _ h=>h)
     ·exact ((H2.out.2.1.setCell (by show w.heap.size≤w.heap.size+1; omega) _).setCell (by show w.heap.size≤w.heap.size+1; omega) _).alloc (by have:=H2.out.2.2.2; simp; omega) _
    case measure=>simp [intOf]; omega
   ·obtain rfl:j=en:=by omega
    have hR:=Md.done hM (by rw [List.length_map,List.length_take]; omega)
    rw [List.take_of_length_le (by omega)] at hR
    have hS:=HB.out.2.2.2.2.1
    have H:=Lib.hid (anZ hR (anZ hbw hS))
    clear hM hR hbw hS hen
    go_wp2
    go_ret
    exact ⟨_,rfl,Ro.rd H.out.1 (fun q h=>.inl h) (fun q hq h=>by
     have h1:w.heap.size+1=q:=by simpa [Value.ownBlock] using hq
     have:=H.out.2.2 q h
     omega),H.out.2.1⟩
 ·have hres:nodePrs lvl es=[]:=if_neg h0
  rw [hres]
  have hgt:(0:Int) < (lvl:Int):=by omega
  have HB:=Lib.hid hb
  clear hb C h hS hen hres h0
  go_enter Tryz.func149,Tryz.ntmps149
  go_wp2
  go_ret
  exact ⟨_,rfl,Rd.nil _ _ _,HB.out⟩
end Go.Proofs.YtgkofgifoiinkaaGreat
namespace Go.Proofs.YtgkofgifoiinkaaGreat
open Go.RowKit
def ndPrs (ns:List Nd):List Pr:=ns.flatMap fun n=>nodePrs n.lvl n.ents
structure WentT (f t:Bytes) (ns:List Nd) (prs:List Pr) (pgs:List Int):Prop where
 pr:inSpan f t (ndPrs ns)=inSpan f t prs
 pg:f=[]→t=[]→ns.map Nd.page=pgs
 ln:ns.length≤pgs.length
section
variable {f t:Bytes} {ns ms:List Nd} {prs qrs:List Pr} {pgs qgs:List Int}
theorem WentT.nil (f t:Bytes):WentT f t [] [] []:=⟨rfl,fun _ _=>rfl,Nat.le_refl _⟩
theorem WentT.append (h:WentT f t ns prs pgs) (k:WentT f t ms qrs qgs):WentT f t (ns++ms) (prs++qrs) (pgs++qgs):=by
 refine ⟨?_,fun h1 h2=>by rw [List.map_append,h.pg h1 h2,k.pg h1 h2],by rw [List.length_append,List.length_append]; have:=h.ln; have:=k.ln; omega⟩
 unfold ndPrs
 rw [List.flatMap_append,inSpan_append,inSpan_append]
 have h1:=h.pr
 have h2:=k.pr
 unfold ndPrs at h1 h2
 rw [h1,h2]
theorem WentT.skip (h:inSpan f t prs=[]) (hne:¬ (f=[]∧t=[])) (pgs:List Int):WentT f t [] prs pgs:=by
 refine ⟨?_,fun h1 h2=>absurd ⟨h1,h2⟩ hne,Nat.zero_le _⟩
 rw [h]
 rfl
theorem prOf_prE (l:List Pr):(l.map prE).map prOf=l:=by
 rw [List.map_map]
 conv=>rhs; rw [← List.map_id l]
 rfl
theorem WentT.leaf {B:Nat→Bytes} {N:Nat} {es:List En} {gs:List Nat} {pg:Int} {toZ:Bytes} (h:Nb B N 0 es prs gs):WentT f t [⟨pg,0,es,toZ⟩] prs (pg::ints gs):=by
 obtain ⟨rfl,rfl⟩:=Nb.zero.1 h
 refine ⟨?_,fun _ _=>rfl,Nat.le_refl _⟩
 unfold ndPrs
 rw [List.flatMap_singleton]
 show inSpan f t (nodePrs 0 (prs.map prE))=_
 unfold nodePrs
 rw [if_pos rfl,prOf_prE]
theorem WentT.inner {l:Nat} {es:List En} {pg:Int} {toZ:Bytes} (f t:Bytes):WentT f t [⟨pg,l+1,es,toZ⟩] [] [pg]:=by
 refine ⟨?_,fun _ _=>rfl,Nat.le_refl _⟩
 unfold ndPrs
 rw [List.flatMap_singleton]
 show inSpan f t (nodePrs (l+1) es)=_
 unfold nodePrs
 rw [if_neg (Nat.succ_ne_zero l)]
theorem ndPrs_len (h:∀ n∈ns,n.ents.length≤503):(ndPrs ns).length≤ns.length*503:=by
 induction ns with
 | nil=>exact Nat.le_refl _
 | cons a r ih =>
  have h1:=h a List.mem_cons_self
  have h2:=ih fun n hn=>h n (List.mem_cons_of_mem _ hn)
  have h3:(nodePrs a.lvl a.ents).length≤a.ents.length:=by
   unfold nodePrs
   split
   ·rw [List.length_map]; exact Nat.le_refl _
   ·exact Nat.zero_le _
  unfold ndPrs at *
  rw [List.flatMap_cons,List.length_append,List.length_cons,Nat.succ_mul]
  omega
theorem inSpan_len (f t:Bytes) (l:List Pr):(inSpan f t l).length≤l.length:=List.length_filter_le _ _
theorem inSpan_all (l:List Pr):inSpan [] [] l=l:=by
 unfold inSpan
 rw [List.filter_eq_self]
 intro p _
 exact hasB_all p.1
end
theorem Rd.par {w:World} {S:Nat→Prop} {v:Value} {ls:List Pr} (h:Rd kdPr w S v ls) {i:Nat} {p:Pr} (hp:ls[i]? = some p):∃ g o cap ka kc va vc,v = .slice (some ⟨g,o,none⟩) ls.length cap∧g < w.heap.size ∧
  w.cell? ⟨g,o+i*2,none⟩=some (.slice ka p.1.length kc)∧w.cell? ⟨g,o+i*2+1,none⟩=some (.slice va p.2.length vc)∧Bsf w S (.slice ka p.1.length kc) p.1∧Bsf w S (.slice va p.2.length vc) p.2:=by
 obtain ⟨g,o,cap,⟨⟨ka,kn,kc⟩,⟨va,vn,vc⟩,p'⟩,h1,h2,h3,h4,h5,_⟩:=h.at hp
 have h2:p'=p:=h2
 subst h2
 obtain ⟨h6,h7⟩:=h3
 obtain ⟨_,_,e1,_⟩:=h6.1.shape
 obtain ⟨_,_,e2,_⟩:=h7.1.shape
 simp only [Sl.v,Value.slice.injEq] at e1 e2
 obtain ⟨_,rfl,_⟩:=e1
 obtain ⟨_,rfl,_⟩:=e2
 exact ⟨g,o,cap,ka,kc,va,vc,h1,h4,h5 0 _ rfl,h5 1 _ rfl,h6,h7⟩
theorem inSpan_more {f t:Bytes} {a l:List Pr} {j:Nat} {p:Pr} (h:l[j]? = some p):inSpan f t (a++l.take (j+1))=inSpan f t (a++l.take j)++if hasB p.1 f t=true then [p] else []:=by
 rw [List.take_add_one,h, ← List.append_assoc,inSpan_append]
 congr 1
 unfold inSpan
 simp [List.filter_cons]
theorem ndPrs_snoc (acc:List Nd) (n:Nd):ndPrs (acc++[n])=ndPrs acc++nodePrs n.lvl n.ents:=by
 unfold ndPrs
 rw [List.flatMap_append,List.flatMap_singleton]
theorem nodePrs_len (lvl:Nat) (es:List En):(nodePrs lvl es).length≤es.length:=by
 unfold nodePrs
 split
 ·rw [List.length_map]; exact Nat.le_refl _
 ·exact Nat.zero_le _
structure HoldsT {α:Type} (w:World) (J:List α→World→(Nat→Prop)→(Nat→Prop)→Prop):Prop where
 base:∀ {l W C F},J l W C F→Below w.heap.size w W∧(∀ q,C q→F q)∧∀ q,F q→w.heap.size≤q∧q < W.heap.size
 stay:∀ {l W W' C F F'},J l W C F→Step F W W' F'→(∀ q,C q→W'.heap[q]? = W.heap[q]?)→(∀ q,F q→F' q)→(∀ q,F' q→q < W'.heap.size)→J l W' C F'
section
variable {α:Type} {w W W':World} {J:List α→World→(Nat→Prop)→(Nat→Prop)→Prop} {l:List α} {C F F' S:Nat→Prop}
theorem HoldsT.below (H:HoldsT w J) (h:J l W C F) (hb:Below W.heap.size W W'):J l W' C F:=by
 obtain ⟨h1,h2,h3⟩:=H.base h
 exact H.stay h (Step.of_below hb F) (fun q hq=>hb.block q (h3 q (h2 q hq)).2) (fun _ h=>h) fun q hq=>Nat.lt_of_lt_of_le (h3 q hq).2 hb.size
def Su (S F:Nat→Prop) (q:Nat):Prop:=S q∨F q
theorem Su.step (h:Step F W W' F') (S:Nat→Prop):Step (Su S F) W W' (Su S F') :=
 ⟨h.only.mono fun _ _ hq=>.inr hq,fun q hq=>hq.elim (fun h=>.inl (.inl h)) fun hq=>(h.more q hq).imp .inr id⟩
theorem HoldsT.tree {tb db pb fr:Nat} {D:Dv} {ps:List Pg} (H:HoldsT w J) (h:J l W C F) (hT:TrS w tb db pb fr D ps S):TrS W tb db pb fr D ps (Su S F):=by
 obtain ⟨h1,h2,h3⟩:=H.base h
 refine (hT.below h1).more (fun _ h=>.inl h) (fun q hq=>hq.elim (fun hs=>Nat.lt_of_lt_of_le (hT.lt q hs) h1.size) fun hf=>(h3 q hf).2) (fun hq=>hq.elim hT.tlt.2 fun hf=>?_)
 have:=hT.tlt.1
 have:=(h3 tb hf).1
 omega
theorem HoldsT.bytes {v:Value} {b:Bytes} (H:HoldsT w J) (h:J l W C F) (hv:Bsf w S v b):Bsf W (Su S F) v b :=
 hv.step ⟨Only.of_below (H.base h).1 S,fun q hq=>hq.imp id fun hf=>((H.base h).2.2 q hf).1⟩
end
end Go.Proofs.YtgkofgifoiinkaaGreat
