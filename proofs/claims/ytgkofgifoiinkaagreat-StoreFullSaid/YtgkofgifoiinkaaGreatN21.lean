/- A journal's blocks in plain words: stamps, pieces, what a string is put as, what is found among blocks; no condition · A journal on a device in plain words: what stands on its ring, what an Append writes, and what is found behind it wherever the power goes; no condition · What an Append of a journal does to a device in plain words: behind it all that was answered is held, and, wherever the power went, perhaps what was under way; no condition. -/
import Derived.Test.YtgkofgifoiinkaaGreatN05
import Derived.Test.YtgkofgifoiinkaaGreatN01
import Derived.Test.YtgkofgifoiinkaaGreatN11
namespace Go.Proofs.YtgkofgifoiinkaaGreat
abbrev Spot:=Nat × Nat
def nPieces (n:Nat):Nat:=(max n 1-1) / 480+1
def nBlocks (n:Nat):Nat:=nPieces n+1
def pieceAt (l:Bytes) (i:Nat):Bytes:=(l.drop (480*i)).take 480
def piecesTo (l:Bytes) (k:Nat):List Bytes:=(List.range k).map (pieceAt l)
def piecesL (l:Bytes):List Bytes:=piecesTo l (nPieces l.length)
theorem piecesTo_succ (l:Bytes) (k:Nat):piecesTo l (k+1)=piecesTo l k++[pieceAt l k]:=by
 simp [piecesTo,List.range_succ]
theorem piecesTo_length (l:Bytes) (k:Nat):(piecesTo l k).length=k:=by simp [piecesTo]
theorem piecesL_length (l:Bytes):(piecesL l).length=nPieces l.length:=piecesTo_length _ _
theorem pieceAt_length (l:Bytes) (i:Nat):(pieceAt l i).length≤480:=by
 unfold pieceAt; exact List.length_take_le _ _
theorem piecesTo_flat (l:Bytes):∀ k,(piecesTo l k).flatten=l.take (480*k)
 | 0=>by simp [piecesTo]
 | k+1=>by
  rw [piecesTo_succ,List.flatten_append,piecesTo_flat l k]
  simp only [List.flatten_cons,List.flatten_nil,List.append_nil,pieceAt]
  rw [show 480*(k+1)=480*k+480 by omega,List.take_add]
theorem nPieces_le (n:Nat):n≤480*nPieces n:=by unfold nPieces; omega
theorem nPieces_more {n k:Nat} (h:k+1 < nPieces n):480*k+480 < n:=by unfold nPieces at h; omega
theorem nPieces_end {n k:Nat} (h:480*k+480 < n):k+1 < nPieces n:=by unfold nPieces; omega
theorem nPieces_pos (n:Nat):1≤nPieces n:=by unfold nPieces; omega
theorem piecesL_flat (l:Bytes):(piecesL l).flatten=l:=by
 unfold piecesL
 rw [piecesTo_flat]
 exact List.take_of_length_le (nPieces_le _)
theorem piecesL_short (l:Bytes):∀ x∈piecesL l,x.length≤480:=by
 intro x hx
 obtain ⟨i,_,rfl⟩:=List.mem_map.1 hx
 exact pieceAt_length l i
def stampL (at_ seq sum:Nat):Bytes:=beL at_ 2++beL seq 8++beL sum 4
theorem stampL_length (a s u:Nat):(stampL a s u).length=14:=by simp [stampL,beL_length]
def blkL (at_ seq:Nat) (k:UInt8) (sum:Nat) (p:Bytes):Bytes:=sealL k (stampL at_ seq sum++p)
def sumOf (b:Bytes):Nat:=beNat ((b.drop 508).take 4)
theorem blkL_length {a s:Nat} {k:UInt8} {u:Nat} {p:Bytes} (h:p.length≤480):(blkL a s k u p).length=512:=by
 unfold blkL
 exact sealL_length (by rw [List.length_append,stampL_length]; omega)
def tellL (at_ seq sum:Nat) (b:Bytes):UInt8 × Bytes :=
 if (openV b).2.2=0∧(openV b).2.1.take 14=stampL at_ seq sum then ((openV b).1,(openV b).2.1.drop 14) else (0,[])
theorem tell_blk {a s u a' s' u':Nat} {k:UInt8} {p:Bytes} (hk:k≠0) (hp:p.length≤480) :
  tellL a' s' u' (blkL a s k u p)=if stampL a s u=stampL a' s' u' then (k,p) else (0,[]):=by
 unfold tellL blkL
 rw [open_seal hk (by rw [List.length_append,stampL_length]; omega)]
 have h1:(stampL a s u++p).take 14=stampL a s u:=List.take_left' (stampL_length _ _ _)
 have h2:(stampL a s u++p).drop 14=p:=List.drop_left' (stampL_length _ _ _)
 simp only [h1,h2,true_and]
theorem tell_own {a s u:Nat} {k:UInt8} {p:Bytes} (hk:k≠0) (hp:p.length≤480):tellL a s u (blkL a s k u p)=(k,p):=by
 rw [tell_blk hk hp,if_pos rfl]
def NoEnd (a s:Nat) (b:Bytes):Prop:=∀ u,(tellL a s u b).1≠2
def UpTo (s:Nat) (b:Bytes):Prop:=∀ a s' u,s < s'→s' < 18446744073709551616→(tellL a s' u b).1=0
def Foreign (b:Bytes):Prop:=∀ a s u,(tellL a s u b).1=0
theorem Foreign.noEnd {b:Bytes} (h:Foreign b) (a s:Nat):NoEnd a s b:=fun u=>by rw [h]; decide
theorem Foreign.upTo {b:Bytes} (h:Foreign b) (s:Nat):UpTo s b:=fun a s' u _ _=>h a s' u
theorem UpTo.noEnd {s s':Nat} {b:Bytes} (h:UpTo s b) (hs:s < s') (hl:s' < 18446744073709551616) (a:Nat):NoEnd a s' b:=fun u=>by rw [h a s' u hs hl]; decide
theorem UpTo.mono {s s':Nat} {b:Bytes} (h:UpTo s b) (hs:s≤s'):UpTo s' b:=fun a t u ht hl=>h a t u (by omega) hl
theorem stamp_seq {a s u a' s' u':Nat} (h:stampL a s u=stampL a' s' u') (hs:s < 18446744073709551616) (hs':s' < 18446744073709551616):s=s':=by
 unfold stampL at h
 have h1:=congrArg (fun l=>(l.drop 2).take 8) h
 simp only [List.append_assoc] at h1
 rw [List.drop_left' (beL_length _ _),List.drop_left' (beL_length _ _),List.take_left' (beL_length _ _),List.take_left' (beL_length _ _)] at h1
 have h2:=congrArg beNat h1
 rw [beNat_beL,beNat_beL,Nat.mod_eq_of_lt (by omega),Nat.mod_eq_of_lt (by omega)] at h2
 exact h2
theorem upTo_blk {a s u:Nat} {k:UInt8} {p:Bytes} (hk:k≠0) (hp:p.length≤480) (hs:s < 18446744073709551616):UpTo s (blkL a s k u p):=fun a' s' u' hl hl'=>by
 rw [tell_blk hk hp,if_neg (fun e=>by have:=stamp_seq e hs hl'; omega)]
theorem noEnd_piece {a s a' s' u:Nat} {p:Bytes} (hp:p.length≤480):NoEnd a s (blkL a' s' 1 u p):=fun u'=>by
 rw [tell_blk (by decide) hp]
 split
 ·show (1:UInt8)≠2
  decide
 ·show (0:UInt8)≠2
  decide
theorem foreign_of {b:Bytes} (h:nOf b < 14):Foreign b:=fun a s u=>by
 unfold tellL
 rw [if_neg]
 rintro ⟨h1,h2⟩
 have h3:=congrArg List.length h2
 rw [stampL_length,List.length_take] at h3
 have h4:(openV b).2.1.length < 14:=by
  unfold openV
  split
  ·split
   ·simp only [List.length_take]; omega
   ·simp
  ·simp
 omega
section
variable (a s:Nat)
def encP:Spot→List Bytes→List Bytes × Spot
 | t,[]=>([],t)
 | t,x::r=>(blkL a s 1 t.2 x::(encP (t.1+1,sumOf (blkL a s 1 t.2 x)) r).1,(encP (t.1+1,sumOf (blkL a s 1 t.2 x)) r).2)
def endB (t:Spot):Bytes:=blkL a s 2 t.2 []
def encS (t:Spot) (l:Bytes):List Bytes × Spot :=
 ((encP a s t (piecesL l)).1++[endB a s (encP a s t (piecesL l)).2],((encP a s t (piecesL l)).2.1+1,sumOf (endB a s (encP a s t (piecesL l)).2)))
def encA:Spot→List Bytes→List Bytes × Spot
 | t,[]=>([],t)
 | t,l::r=>((encS a s t l).1++(encA (encS a s t l).2 r).1,(encA (encS a s t l).2 r).2)
def scan:List Bytes→Spot→Bytes→List (Bytes × Spot)
 | [],_,_=>[]
 | b::r,t,cur =>
  if (tellL a s t.2 b).1=1 then scan r (t.1+1,sumOf b) (cur++(tellL a s t.2 b).2)
  else if (tellL a s t.2 b).1=2 then (cur,(t.1+1,sumOf b))::scan r (t.1+1,sumOf b) []
  else []
end
section
variable {a s:Nat}
theorem encP_length:∀ (x:List Bytes) (t:Spot),(encP a s t x).1.length=x.length
 | [],_=>rfl
 | b::x,t=>by simp [encP,encP_length x]
theorem encP_spot:∀ (x:List Bytes) (t:Spot),(encP a s t x).2.1=t.1+x.length
 | [],_=>rfl
 | b::x,t=>by simp [encP,encP_spot x]; omega
theorem encS_length (t:Spot) (l:Bytes):(encS a s t l).1.length=nBlocks l.length:=by
 simp [encS,encP_length,piecesL_length,nBlocks]
theorem encS_spot (t:Spot) (l:Bytes):(encS a s t l).2.1=t.1+nBlocks l.length:=by
 simp [encS,encP_spot,piecesL_length,nBlocks]; omega
theorem encA_append:∀ (x y:List Bytes) (t:Spot),encA a s t (x++y)=((encA a s t x).1++(encA a s (encA a s t x).2 y).1,(encA a s (encA a s t x).2 y).2)
 | [],y,t=>rfl
 | b::x,y,t=>by
  simp only [List.cons_append,encA,encA_append x y,List.append_assoc]
theorem encA_one (l:Bytes) (t:Spot):encA a s t [l]=encS a s t l:=by simp [encA]
def takenBy (L:List Bytes):Nat:=(L.map fun l=>nBlocks l.length).sum
theorem takenBy_append (x y:List Bytes):takenBy (x++y)=takenBy x+takenBy y:=by simp [takenBy]
theorem takenBy_one (l:Bytes):takenBy [l]=nBlocks l.length:=by simp [takenBy]
theorem encA_length:∀ (L:List Bytes) (t:Spot),(encA a s t L).1.length=takenBy L
 | [],_=>rfl
 | l::r,t=>by
  simp [encA,encS_length,encA_length r,takenBy]
theorem encA_spot:∀ (L:List Bytes) (t:Spot),(encA a s t L).2.1=t.1+takenBy L
 | [],_=>rfl
 | l::r,t=>by
  simp [encA,encA_spot r,encS_spot,takenBy]; omega
theorem scan_encP:∀ (x:List Bytes) (t:Spot) (cur:Bytes) (rest:List Bytes),(∀ b∈x,b.length≤480) →
  scan a s ((encP a s t x).1++rest) t cur=scan a s rest (encP a s t x).2 (cur++x.flatten)
 | [],t,cur,rest,_=>by simp [encP]
 | b::x,t,cur,rest,h=>by
  have hb:b.length≤480:=h b (by simp)
  simp only [encP,List.cons_append]
  rw [scan,tell_own (by decide) hb,if_pos rfl,scan_encP x _ _ rest (fun c hc=>h c (by simp [hc]))]
  simp [List.append_assoc]
theorem scan_encS (l:Bytes) (t:Spot) (rest:List Bytes):scan a s ((encS a s t l).1++rest) t []=(l,(encS a s t l).2)::scan a s rest (encS a s t l).2 []:=by
 unfold encS
 rw [List.append_assoc,scan_encP _ _ _ _ (piecesL_short l),piecesL_flat]
 simp only [List.nil_append,List.cons_append,endB]
 rw [scan,tell_own (by decide) (by simp),if_neg (by decide),if_pos rfl]
theorem scan_encA:∀ (L:List Bytes) (t:Spot) (rest:List Bytes),∃ m,scan a s ((encA a s t L).1++rest) t []=m++scan a s rest (encA a s t L).2 []∧m.map Prod.fst=L∧((m.map Prod.snd).getLast?.getD t)=(encA a s t L).2
 | [],t,rest=>⟨[],by simp [encA],rfl,rfl⟩
 | l::r,t,rest=>by
  obtain ⟨m,h1,h2,h3⟩:=scan_encA r (encS a s t l).2 rest
  refine ⟨(l,(encS a s t l).2)::m,?_,by simp [h2],?_⟩
  ·simp only [encA,List.append_assoc]
   rw [scan_encS,h1]
   rfl
  ·simp only [encA,List.map_cons]
   rw [← h3]
   cases m with
   | nil=>simp
   | cons y m=>simp [List.getLast?_cons]
theorem scan_none:∀ (rest:List Bytes) (t:Spot) (cur:Bytes),(∀ b∈rest,NoEnd a s b)→scan a s rest t cur=[]
 | [],_,_,_=>rfl
 | b::r,t,cur,h=>by
  have h0:=h b (by simp) t.2
  rw [scan]
  by_cases h1:(tellL a s t.2 b).1=1
  ·rw [if_pos h1]
   exact scan_none r _ _ fun c hc=>h c (by simp [hc])
  ·rw [if_neg h1,if_neg h0]
end
def ringAt (a size ahead:Nat):Nat:=if size≤a+ahead then a+ahead-size else a+ahead
section
variable {a size p q:Nat}
theorem ringAt_lt (_:a < size) (hp:p < size):ringAt a size p < size:=by unfold ringAt; split <;> omega
theorem ringAt_le (h:a < size) (hp:p≤size):ringAt a size p < size:=by unfold ringAt; split <;> omega
theorem ringAt_inj (_:a < size) (hp:p < size) (hq:q < size) (e:ringAt a size p=ringAt a size q):p=q:=by
 unfold ringAt at e; split at e <;> split at e <;> omega
theorem ringAt_zero (h:a < size):ringAt a size 0=a:=by unfold ringAt; rw [if_neg (by omega)]; rfl
end
def Cand (x:Bk) (c:Bytes):Prop:=c=x.sure∨c∈x.loose
theorem cand_stands (x:Bk):Cand x x.stands:=by
 unfold Bk.stands
 rcases h:x.loose.getLast? with _ | c
 ·exact .inl rfl
 ·exact .inr (List.mem_of_getLast? h)
theorem cand_picked (x:Bk) (n:Nat):Cand x (x.picked n):=by
 unfold Bk.picked
 split
 ·exact .inl rfl
 ·rcases h:x.loose[n-1]? with _ | c
  ·exact .inl rfl
  ·exact .inr (List.mem_of_getElem? h)
def Clean (l:List Bk):Prop:=∀ (i:Nat) (x:Bk),l[i]? = some x→x.loose=[]
theorem clean_flushed (l:List Bk):Clean (flushed l):=fun i x hx=>by
 simp only [flushed,List.getElem?_map] at hx
 obtain ⟨y,_,rfl⟩:=Option.map_eq_some_iff.1 hx
 rfl
theorem clean_comes (l:List Bk) (ps:List Int):Clean (comes l ps):=fun i x hx=>by
 have hi:=(List.getElem?_eq_some_iff.1 hx).1
 rw [comes_length] at hi
 rw [comes_at l ps i _ (List.getElem?_eq_getElem hi),Option.some.injEq] at hx
 subst hx
 rfl
theorem flushed_at {l:List Bk} {i:Nat} {x:Bk} (h:l[i]? = some x):(flushed l)[i]? = some ⟨x.stands,[]⟩:=by simp [flushed,h]
structure Holds (fr size a s:Nat) (bk:List Bk) (L:List Bytes):Prop where
 fits:fr+size≤bk.length
 two:2≤size
 atl:a < size
 num:s < 18446744073709551616
 room:takenBy L≤size
 held:∀ (p:Nat) (b:Bytes),(encA a s (0,0) L).1[p]? = some b→∃ x,bk[fr+ringAt a size p]? = some x∧∀ c,Cand x c→c=b
 rest:∀ (p:Nat) (x:Bk),takenBy L≤p→p < size→bk[fr+ringAt a size p]? = some x→∀ c,Cand x c→NoEnd a s c
 old:∀ (i:Nat) (x:Bk),i < size→bk[fr+i]? = some x→∀ c,Cand x c→UpTo s c
section
variable {fr size a s:Nat} {bk bk':List Bk} {L:List Bytes}
theorem Holds.turn (h:Holds fr size a s bk L) (hl:bk'.length=bk.length) (hc:∀ (i:Nat) (x':Bk),bk'[i]? = some x'→∃ x,bk[i]? = some x∧∀ c,Cand x' c→Cand x c):Holds fr size a s bk' L where
 fits:=by rw [hl]; exact h.fits
 two:=h.two
 atl:=h.atl
 num:=h.num
 room:=h.room
 held p b hb:=by
  obtain ⟨x,hx,hx'⟩:=h.held p b hb
  have hi:=(List.getElem?_eq_some_iff.1 hx).1
  obtain ⟨y,hy⟩:∃ y,bk'[fr+ringAt a size p]? = some y:=⟨_,List.getElem?_eq_getElem (by omega)⟩
  obtain ⟨z,hz,hz'⟩:=hc _ _ hy
  rw [hx,Option.some.injEq] at hz
  subst hz
  exact ⟨y,hy,fun c hcc=>hx' c (hz' c hcc)⟩
 rest p x hp hps hx c hcc:=by
  obtain ⟨z,hz,hz'⟩:=hc _ _ hx
  exact h.rest p z hp hps hz c (hz' c hcc)
 old i x hi hx c hcc:=by
  obtain ⟨z,hz,hz'⟩:=hc _ _ hx
  exact h.old i z hi hz c (hz' c hcc)
theorem Holds.flushed (h:Holds fr size a s bk L):Holds fr size a s (flushed bk) L:=h.turn (flushed_length _) fun i x' hx=>by
 simp only [Go.Proofs.YtgkofgifoiinkaaGreat.flushed,List.getElem?_map] at hx
 obtain ⟨y,hy,rfl⟩:=Option.map_eq_some_iff.1 hx
 refine ⟨y,hy,fun c hc=>?_⟩
 rcases hc with rfl | hc
 ·exact cand_stands y
 ·cases hc
theorem Holds.comes (h:Holds fr size a s bk L) (ps:List Int):Holds fr size a s (comes bk ps) L:=h.turn (comes_length _ _) fun i x' hx=>by
 have hi:=(List.getElem?_eq_some_iff.1 hx).1
 rw [comes_length] at hi
 rw [comes_at bk ps i _ (List.getElem?_eq_getElem hi),Option.some.injEq] at hx
 subst hx
 refine ⟨_,List.getElem?_eq_getElem hi,fun c hc=>?_⟩
 rcases hc with rfl | hc
 ·dsimp only
  split
  ·exact .inl rfl
  ·exact cand_picked _ _
 ·cases hc
theorem Holds.wrote (h:Holds fr size a s bk L) {p:Nat} {b:Bytes} (h1:takenBy L≤p) (h2:p < size) (hb:NoEnd a s b) (hu:UpTo s b):Holds fr size a s (wrote bk (fr+ringAt a size p) b) L where
 fits:=by rw [wrote_length]; exact h.fits
 two:=h.two
 atl:=h.atl
 num:=h.num
 room:=h.room
 held q c hc:=by
  obtain ⟨x,hx,hx'⟩:=h.held q c hc
  refine ⟨x,?_,hx'⟩
  have hq:=(List.getElem?_eq_some_iff.1 hc).1
  rw [encA_length] at hq
  have hne:fr+ringAt a size q≠fr+ringAt a size p:=fun e=>by
   have:q=p:=ringAt_inj h.atl (by have:=h.room; omega) h2 (by omega)
   omega
  rw [wrote_get,if_neg hne,hx]
 rest q x hq hqs hx c hc:=by
  rw [wrote_get] at hx
  split at hx
  ·obtain ⟨y,hy,rfl⟩:=Option.map_eq_some_iff.1 hx
   rcases hc with rfl | hc
   ·exact h.rest q y hq hqs hy _ (.inl rfl)
   ·rcases List.mem_append.1 hc with hc | hc
    ·exact h.rest q y hq hqs hy _ (.inr hc)
    ·rw [List.mem_singleton.1 hc]
     exact hb
  ·exact h.rest q x hq hqs hx c hc
 old i x hi hx c hc:=by
  rw [wrote_get] at hx
  split at hx
  ·obtain ⟨y,hy,rfl⟩:=Option.map_eq_some_iff.1 hx
   rcases hc with rfl | hc
   ·exact h.old i y hi hy _ (.inl rfl)
   ·rcases List.mem_append.1 hc with hc | hc
    ·exact h.old i y hi hy _ (.inr hc)
    ·rw [List.mem_singleton.1 hc]
     exact hu
  ·exact h.old i x hi hx c hc
theorem Holds.ends (h:Holds fr size a s bk L) {l:Bytes} (hr:takenBy L+nBlocks l.length≤size)
  (hp:∀ (j:Nat) (b:Bytes),(encP a s (encA a s (0,0) L).2 (piecesL l)).1[j]? = some b→∃ x,bk[fr+ringAt a size (takenBy L+j)]? = some x∧∀ c,Cand x c→c=b) :
  Holds fr size a s (bk.set (fr+ringAt a size (takenBy L+nPieces l.length)) ⟨endB a s (encP a s (encA a s (0,0) L).2 (piecesL l)).2,[]⟩) (L++[l]):=by
 have hlt:takenBy L+nPieces l.length < size:=by unfold nBlocks at hr; omega
 have hin:=ringAt_lt h.atl hlt
 have hset:∀ q,q < size→q≠takenBy L+nPieces l.length→∀ v,(bk.set (fr+ringAt a size (takenBy L+nPieces l.length)) v)[fr+ringAt a size q]? = bk[fr+ringAt a size q]?:=fun q hq hne v =>
  List.getElem?_set_ne (fun e=>hne (ringAt_inj h.atl hq hlt (by omega)))
 have hself:∀ v,(bk.set (fr+ringAt a size (takenBy L+nPieces l.length)) v)[fr+ringAt a size (takenBy L+nPieces l.length)]? = some v:=fun v =>
  List.getElem?_set_self (by have:=h.fits; omega)
 have htk:takenBy (L++[l])=takenBy L+nBlocks l.length:=by rw [takenBy_append,takenBy_one]
 exact {
  fits:=by rw [List.length_set]; exact h.fits
  two:=h.two
  atl:=h.atl
  num:=h.num
  room:=by rw [htk]; exact hr
  held:=fun q b hb=>by
   rw [encA_append,encA_one] at hb
   simp only [encS] at hb
   rw [← List.append_assoc] at hb
   by_cases h1:q < takenBy L
   ·rw [List.append_assoc,List.getElem?_append_left (by rw [encA_length]; exact h1)] at hb
    obtain ⟨x,hx,hx'⟩:=h.held q b hb
    exact ⟨x,by rw [hset q (by omega) (by omega)]; exact hx,hx'⟩
   ·by_cases h2:q < takenBy L+nPieces l.length
    ·rw [List.getElem?_append_left (by rw [List.length_append,encA_length,encP_length,piecesL_length]; exact h2),List.getElem?_append_right (by rw [encA_length]; omega),encA_length] at hb
     obtain ⟨x,hx,hx'⟩:=hp _ b hb
     rw [show takenBy L+(q-takenBy L)=q by omega] at hx
     exact ⟨x,by rw [hset q (by omega) (by omega)]; exact hx,hx'⟩
    ·rw [List.getElem?_append_right (by rw [List.length_append,encA_length,encP_length,piecesL_length]; omega),List.length_append,encA_length,encP_length,piecesL_length] at hb
     have hq:q=takenBy L+nPieces l.length:=by
      have:=(List.getElem?_eq_some_iff.1 hb).1
      simp at this
      omega
     subst hq
     rw [Nat.sub_self,List.getElem?_cons_zero,Option.some.injEq] at hb
     subst hb
     exact ⟨_,hself _,fun c hc=>by
      rcases hc with hc | hc
      ·exact hc
      ·cases hc⟩
  rest:=fun q x hq hqs hx c hc=>by
   rw [htk] at hq
   unfold nBlocks at hq
   rw [hset q hqs (by omega)] at hx
   exact h.rest q x (by omega) hqs hx c hc
  old:=fun i x hi hx c hc=>by
   by_cases he:fr+i=fr+ringAt a size (takenBy L+nPieces l.length)
   ·rw [he,hself,Option.some.injEq] at hx
    subst hx
    rcases hc with rfl | hc
    ·exact upTo_blk (by decide) (by simp) h.num
    ·cases hc
   ·rw [List.getElem?_set_ne (fun e=>he e.symm)] at hx
    exact h.old i x hi hx c hc }
def standAt (bk:List Bk) (k:Nat):Bytes:=(bk[k]?.map Bk.stands).getD []
def standsFrom (fr size a:Nat) (bk:List Bk) (p:Nat):List Bytes:=(List.range' p (size-p)).map fun q=>standAt bk (fr+ringAt a size q)
theorem standsFrom_step {p:Nat} (hp:p < size):standsFrom fr size a bk p=standAt bk (fr+ringAt a size p)::standsFrom fr size a bk (p+1):=by
 unfold standsFrom
 rw [show size-p=(size-(p+1))+1 by omega,List.range'_succ,List.map_cons]
theorem standsFrom_end {p:Nat} (hp:size≤p):standsFrom fr size a bk p=[]:=by
 unfold standsFrom
 rw [show size-p=0 by omega]
 rfl
theorem standsFrom_drop {p k:Nat} (h:p+k≤size):(standsFrom fr size a bk p).drop k=standsFrom fr size a bk (p+k):=by
 induction k generalizing p with
 | zero=>rfl
 | succ k ih=>rw [standsFrom_step (by omega),List.drop_succ_cons,ih (by omega)]; congr 1; omega
theorem standsFrom_get {p i:Nat} (h:p+i < size):(standsFrom fr size a bk p)[i]? = some (standAt bk (fr+ringAt a size (p+i))):=by
 have:=standsFrom_drop (fr:=fr) (a:=a) (bk:=bk) (p:=p) (k:=i) (size:=size) (by omega)
 rw [standsFrom_step (p:=p+i) h] at this
 have h2:=congrArg (fun l=>l[0]?) this
 simpa using h2
theorem Holds.found (h:Holds fr size a s bk L):∃ m,scan a s (standsFrom fr size a bk 0) (0,0) []=m∧m.map Prod.fst=L∧((m.map Prod.snd).getLast?.getD (0,0))=(encA a s (0,0) L).2:=by
 have hs:standsFrom fr size a bk 0=(encA a s (0,0) L).1++standsFrom fr size a bk (takenBy L):=by
  rw [← List.take_append_drop (takenBy L) (standsFrom fr size a bk 0),standsFrom_drop (by have:=h.room; omega),Nat.zero_add]
  congr 1
  apply List.ext_getElem?
  intro i
  by_cases hi:i < takenBy L
  ·rw [List.getElem?_take_of_lt hi,standsFrom_get (by have:=h.room; omega),Nat.zero_add]
   obtain ⟨b,hb⟩:∃ b,(encA a s (0,0) L).1[i]? = some b:=⟨_,List.getElem?_eq_getElem (by rw [encA_length]; exact hi)⟩
   obtain ⟨x,hx,hx'⟩:=h.held i b hb
   rw [hb]
   unfold standAt
   rw [hx,Option.map_some,Option.getD_some,hx' _ (cand_stands x)]
  ·rw [List.getElem?_eq_none (by rw [List.length_take]; omega),List.getElem?_eq_none (by rw [encA_length]; omega)]
 obtain ⟨m,h1,h2,h3⟩:=scan_encA (a:=a) (s:=s) L (0,0) (standsFrom fr size a bk (takenBy L))
 refine ⟨m,?_,h2,h3⟩
 rw [hs,h1,scan_none _ _ _ (fun b hb=>?_),List.append_nil]
 unfold standsFrom at hb
 obtain ⟨q,hq,rfl⟩:=List.mem_map.1 hb
 have hq':=List.mem_range'_1.1 hq
 have hlt:=ringAt_lt h.atl (show q < size by omega)
 unfold standAt
 rw [List.getElem?_eq_getElem (by have:=h.fits; omega),Option.map_some,Option.getD_some]
 exact h.rest q _ hq'.1 (by omega) (List.getElem?_eq_getElem (by have:=h.fits; omega)) _ (cand_stands _)
theorem Holds.forget (h:Holds fr size a s bk L) (hn:s+L.length < 18446744073709551616):Holds fr size (ringAt a size (takenBy L)) (s+L.length) bk [] where
 fits:=h.fits
 two:=h.two
 atl:=ringAt_le h.atl h.room
 num:=hn
 room:=Nat.zero_le _
 held p b hb:=by simp [encA] at hb
 rest p x _ hp hx c hc:=by
  have hi:=ringAt_lt (ringAt_le h.atl h.room) hp
  cases L with
  | nil =>
   have e:ringAt a size (takenBy [])=a:=ringAt_zero h.atl
   rw [e] at hx ⊢
   exact h.rest p x (Nat.zero_le _) hp hx c hc
  | cons l L=>exact (h.old _ x hi hx c hc).noEnd (by simp) hn _
 old i x hi hx c hc:=(h.old i x hi hx c hc).mono (by omega)
theorem Holds.fresh (hf:∀ (i:Nat) (x:Bk),i < size→bk[fr+i]? = some x→∀ c,Cand x c→Foreign c) (hn:fr+size≤bk.length) (h2:2≤size) (ha:a < size) (hs:s < 18446744073709551616):Holds fr size a s bk [] where
 fits:=hn
 two:=h2
 atl:=ha
 num:=hs
 room:=Nat.zero_le _
 held p b hb:=by simp [encA] at hb
 rest p x _ hp hx c hc:=(hf _ x (ringAt_lt ha hp) hx c hc).noEnd _ _
 old i x hi hx c hc:=(hf i x hi hx c hc).upTo _
end
structure Jn where
 fr:Nat
 size:Nat
 at_:Nat
 seq:Nat
 held:Nat
 ahead:Nat
 sum:Nat
 dead:Bool
abbrev Jn.spot (J:Jn):Spot:=(J.ahead,J.sum)
def Jn.place (J:Jn) (t:Spot):Nat:=J.fr+ringAt J.at_ J.size t.1
def Jn.blk (J:Jn) (t:Spot) (k:UInt8) (p:Bytes):Bytes:=blkL J.at_ J.seq k t.2 p
def behindS (t:Spot) (b:Bytes):Spot:=(t.1+1,sumOf b)
def putD (J:Jn) (D:Dv) (t:Spot) (k:UInt8) (p:Bytes):Dv:=wdev D (J.place t:Nat) (J.blk t k p)
def putC (J:Jn) (D:Dv) (t:Spot) (k:UInt8) (p:Bytes):Int:=wcode D (J.place t:Nat) (J.blk t k p)
def putS (J:Jn) (D:Dv) (t:Spot) (k:UInt8) (p:Bytes):Spot:=if putC J D t k p=0 then behindS t (J.blk t k p) else (0,0)
def putsD (J:Jn):Dv→Spot→List Bytes→Dv × Spot × Int
 | D,t,[]=>(D,t,0)
 | D,t,x::r=>if putC J D t 1 x=0 then putsD J (putD J D t 1 x) (behindS t (J.blk t 1 x)) r else (putD J D t 1 x,(0,0),putC J D t 1 x)
def closeD (J:Jn) (D:Dv) (t:Spot):Dv × Spot × Int :=
 if fcode D≠0 then (fdev D,(0,0),fcode D)
 else if putC J (fdev D) t 2 []≠0 then (putD J (fdev D) t 2 [],(0,0),putC J (fdev D) t 2 [])
 else if fcode (putD J (fdev D) t 2 [])≠0 then (fdev (putD J (fdev D) t 2 []),(0,0),fcode (putD J (fdev D) t 2 []))
 else (fdev (putD J (fdev D) t 2 []),behindS t (J.blk t 2 []),0)
def writeD (J:Jn) (D:Dv) (l:Bytes):Dv × Spot × Int :=
 if (putsD J D J.spot (piecesL l)).2.2≠0 then ((putsD J D J.spot (piecesL l)).1,(0,0),(putsD J D J.spot (piecesL l)).2.2)
 else closeD J (putsD J D J.spot (piecesL l)).1 (putsD J D J.spot (piecesL l)).2.1
theorem putsD_append {J:Jn}:∀ (x y:List Bytes) (D:Dv) (t:Spot) (D':Dv) (t':Spot),putsD J D t x=(D',t',0)→putsD J D t (x++y)=putsD J D' t' y
 | [],y,D,t,D',t',h=>by
  simp only [putsD,Prod.mk.injEq] at h
  rw [List.nil_append,h.1,h.2.1]
 | b::x,y,D,t,D',t',h=>by
  rw [List.cons_append,putsD]
  rw [putsD] at h
  by_cases hc:putC J D t 1 b=0
  ·rw [if_pos hc] at h ⊢
   exact putsD_append x y _ _ _ _ h
  ·rw [if_neg hc] at h
   simp only [Prod.mk.injEq] at h
   exact absurd h.2.2 hc
def Free' (D:Dv):Prop:=D.on=true∧D.left < 0
section
variable {D:Dv}
theorem wcode_in {k:Nat} {l:Bytes} (ho:D.on=true) (hk:k < D.bk.length) (hl:l.length=512) :
  (D.left=0∧wcode D k l=8∧wdev D k l=⟨D.bk,false,D.left⟩)∨(D.left≠0∧wcode D k l=0∧wdev D k l=⟨wrote D.bk k l,true,spent D.left⟩):=by
 have hn:¬ noSuch D k l:=by
  unfold noSuch
  rintro (h | h | h)
  ·omega
  ·omega
  ·exact h hl
 by_cases hz:D.left=0
 ·exact .inl ⟨hz,by simp [wcode,ho,hn,hz],by simp [wdev,ho,hn,hz]⟩
 ·exact .inr ⟨hz,by simp [wcode,ho,hn,hz],by simp [wdev,ho,hn,hz]⟩
theorem fcode_in (ho:D.on=true) :
  (D.left=0∧fcode D=8∧fdev D=⟨D.bk,false,D.left⟩)∨(D.left≠0∧fcode D=0∧fdev D=⟨flushed D.bk,true,spent D.left⟩):=by
 by_cases hz:D.left=0
 ·exact .inl ⟨hz,by simp [fcode,ho,hz],by simp [fdev,ho,hz]⟩
 ·exact .inr ⟨hz,by simp [fcode,ho,hz],by simp [fdev,ho,hz]⟩
theorem spent_below {n:Int} (h:n < 0):spent n < 0:=by unfold spent; split <;> omega
end
structure Went (D D':Dv) (c:Int):Prop where
 len:D'.bk.length=D.bk.length
 ends:(c=0∧D'.on=true)∨(c=8∧D'.on=false)
 free:D.left < 0→c=0∧D'.left < 0
theorem Went.trans {A B C:Dv} {c:Int} (h:Went A B 0) (k:Went B C c):Went A C c where
 len:=k.len.trans h.len
 ends:=k.ends
 free hl:=k.free (h.free hl).2
theorem went_write {D:Dv} {k:Nat} {l:Bytes} (ho:D.on=true) (hk:k < D.bk.length) (hl:l.length=512):Went D (wdev D k l) (wcode D k l):=by
 rcases wcode_in ho hk hl with ⟨hz,h1,h2⟩ | ⟨hz,h1,h2⟩
 ·rw [h1,h2]
  exact ⟨rfl, .inr ⟨rfl,rfl⟩,fun h=>by omega⟩
 ·rw [h1,h2]
  exact ⟨wrote_length _ _ _, .inl ⟨rfl,rfl⟩,fun h=>⟨rfl,spent_below h⟩⟩
theorem went_flush {D:Dv} (ho:D.on=true):Went D (fdev D) (fcode D):=by
 rcases fcode_in ho with ⟨hz,h1,h2⟩ | ⟨hz,h1,h2⟩
 ·rw [h1,h2]
  exact ⟨rfl, .inr ⟨rfl,rfl⟩,fun h=>by omega⟩
 ·rw [h1,h2]
  exact ⟨flushed_length _, .inl ⟨rfl,rfl⟩,fun h=>⟨rfl,spent_below h⟩⟩
def Outside (fr size:Nat) (l l':List Bk):Prop:=∀ i,(i < fr∨fr+size≤i)→standAt l' i=standAt l i
theorem Outside.refl {fr size:Nat} (l:List Bk):Outside fr size l l:=fun _ _=>rfl
theorem Outside.trans {fr size:Nat} {a b c:List Bk} (h:Outside fr size a b) (k:Outside fr size b c):Outside fr size a c:=fun i hi=>(k i hi).trans (h i hi)
theorem outside_wrote {fr size k:Nat} {l:List Bk} {b:Bytes} (h1:fr≤k) (h2:k < fr+size):Outside fr size l (wrote l k b):=fun i hi=>by
 unfold standAt
 rw [wrote_get,if_neg (by omega)]
theorem outside_flushed {fr size:Nat} (l:List Bk):Outside fr size l (flushed l):=fun i _=>by
 unfold standAt
 simp only [flushed,List.getElem?_map]
 cases l[i]? <;> rfl
section
variable {J:Jn} {D:Dv} {L:List Bytes}
theorem place_in (ha:J.at_ < J.size) {t:Spot} (ht:t.1 < J.size):J.fr≤J.place t∧J.place t < J.fr+J.size:=by
 have:=ringAt_lt ha ht
 unfold Jn.place
 omega
theorem went_put (ho:D.on=true) (hf:J.fr+J.size≤D.bk.length) (ha:J.at_ < J.size) {t:Spot} (ht:t.1 < J.size) (k:UInt8) {p:Bytes} (hp:p.length≤480) :
  Went D (putD J D t k p) (putC J D t k p)∧Outside J.fr J.size D.bk (putD J D t k p).bk:=by
 have h1:=place_in ha ht
 have hl:(J.blk t k p).length=512:=blkL_length hp
 refine ⟨went_write ho (by omega) hl,?_⟩
 unfold putD
 rcases wcode_in (k:=J.place t) ho (by omega) hl with ⟨_,_,h2⟩ | ⟨_,_,h2⟩
 ·rw [h2]; exact Outside.refl _
 ·rw [h2]; exact outside_wrote h1.1 h1.2
theorem went_puts:∀ (x:List Bytes) (D:Dv) (t:Spot),D.on=true→J.fr+J.size≤D.bk.length→J.at_ < J.size→t.1+x.length≤J.size→(∀ b∈x,b.length≤480) →
  Went D (putsD J D t x).1 (putsD J D t x).2.2∧Outside J.fr J.size D.bk (putsD J D t x).1.bk∧((putsD J D t x).2.2=0→(putsD J D t x).2.1=(encP J.at_ J.seq t x).2)
 | [],D,t,ho,_,_,_,_=>⟨⟨rfl, .inl ⟨rfl,ho⟩,fun h=>⟨rfl,h⟩⟩,Outside.refl _,fun _=>rfl⟩
 | b::x,D,t,ho,hf,ha,ht,hx=>by
  simp only [List.length_cons] at ht
  obtain ⟨h1,h2⟩:=went_put (t:=t) ho hf ha (by omega) 1 (hx b (by simp))
  rw [putsD]
  by_cases hc:putC J D t 1 b=0
  ·rw [if_pos hc]
   rw [hc] at h1
   have hon:(putD J D t 1 b).on=true:=h1.ends.elim (·.2) fun h=>by cases h.1
   obtain ⟨k1,k2,k3⟩:=went_puts x (putD J D t 1 b) (behindS t (J.blk t 1 b)) hon (by rw [h1.len]; exact hf) ha (by simp only [behindS]; omega) fun c hcx=>hx c (by simp [hcx])
   exact ⟨h1.trans k1,h2.trans k2,fun h=>by rw [k3 h]; rfl⟩
  ·rw [if_neg hc]
   exact ⟨h1,h2,fun h=>absurd h hc⟩
theorem went_close (ho:D.on=true) (hf:J.fr+J.size≤D.bk.length) (ha:J.at_ < J.size) {t:Spot} (ht:t.1 < J.size) :
  Went D (closeD J D t).1 (closeD J D t).2.2∧Outside J.fr J.size D.bk (closeD J D t).1.bk∧((closeD J D t).2.2=0→(closeD J D t).2.1=behindS t (J.blk t 2 [])):=by
 have hfl:=went_flush ho
 have of:Outside J.fr J.size D.bk (fdev D).bk:=by
  rcases fcode_in ho with ⟨_,_,h2⟩ | ⟨_,_,h2⟩
  ·rw [h2]; exact Outside.refl _
  ·rw [h2]; exact outside_flushed _
 unfold closeD
 by_cases h1:fcode D=0
 ·rw [if_neg (by simpa using h1)]
  rw [h1] at hfl
  have hon:(fdev D).on=true:=hfl.ends.elim (·.2) fun h=>by cases h.1
  obtain ⟨hp,op⟩:=went_put (J:=J) (t:=t) hon (by rw [hfl.len]; exact hf) ha ht 2 (p:=[]) (by simp)
  by_cases h2:putC J (fdev D) t 2 []=0
  ·rw [if_neg (by simpa using h2)]
   rw [h2] at hp
   have hon2:(putD J (fdev D) t 2 []).on=true:=hp.ends.elim (·.2) fun h=>by cases h.1
   have hfl2:=went_flush hon2
   have of2:Outside J.fr J.size (putD J (fdev D) t 2 []).bk (fdev (putD J (fdev D) t 2 [])).bk:=by
    rcases fcode_in hon2 with ⟨_,_,h2⟩ | ⟨_,_,h2⟩
    ·rw [h2]; exact Outside.refl _
    ·rw [h2]; exact outside_flushed _
   by_cases h3:fcode (putD J (fdev D) t 2 [])=0
   ·rw [if_neg (by simpa using h3)]
    rw [h3] at hfl2
    exact ⟨(hfl.trans hp).trans hfl2,(of.trans op).trans of2,fun _=>rfl⟩
   ·rw [if_pos h3]
    exact ⟨(hfl.trans hp).trans hfl2,(of.trans op).trans of2,fun h=>absurd h h3⟩
  ·rw [if_pos h2]
   exact ⟨hfl.trans hp,of.trans op,fun h=>absurd h h2⟩
 ·rw [if_pos h1]
  exact ⟨hfl,of,fun h=>absurd h h1⟩
theorem went_writeD (ho:D.on=true) (hf:J.fr+J.size≤D.bk.length) (ha:J.at_ < J.size) {l:Bytes} (ht:J.ahead+nBlocks l.length≤J.size) :
  Went D (writeD J D l).1 (writeD J D l).2.2∧Outside J.fr J.size D.bk (writeD J D l).1.bk∧((writeD J D l).2.2=0→(writeD J D l).2.1=(encS J.at_ J.seq J.spot l).2):=by
 unfold nBlocks at ht
 obtain ⟨h1,h2,h3⟩:=went_puts (J:=J) (piecesL l) D J.spot ho hf ha (by rw [piecesL_length]; simp only; omega) (piecesL_short l)
 unfold writeD
 by_cases hc:(putsD J D J.spot (piecesL l)).2.2=0
 ·rw [if_neg (by simpa using hc)]
  rw [hc] at h1
  have hs:=h3 hc
  have hon:(putsD J D J.spot (piecesL l)).1.on=true:=h1.ends.elim (·.2) fun h=>by cases h.1
  have hsp:(putsD J D J.spot (piecesL l)).2.1.1=J.ahead+nPieces l.length:=by rw [hs,encP_spot,piecesL_length]
  obtain ⟨k1,k2,k3⟩:=went_close (J:=J) hon (by rw [h1.len]; exact hf) ha (t:=(putsD J D J.spot (piecesL l)).2.1) (by rw [hsp]; omega)
  exact ⟨h1.trans k1,h2.trans k2,fun h=>by rw [k3 h,hs]; rfl⟩
 ·rw [if_pos hc]
  exact ⟨h1,h2,fun h=>absurd h hc⟩
theorem holds_puts (x:List Bytes):∀ (D:Dv) (t:Spot),D.on=true→Holds J.fr J.size J.at_ J.seq D.bk L→takenBy L≤t.1→t.1+x.length≤J.size→(∀ b∈x,b.length≤480) →
  Holds J.fr J.size J.at_ J.seq (putsD J D t x).1.bk L∧((putsD J D t x).2.2=0 →
   (∀ (j:Nat) (b:Bytes),(encP J.at_ J.seq t x).1[j]? = some b→standAt (putsD J D t x).1.bk (J.fr+ringAt J.at_ J.size (t.1+j))=b) ∧
   (∀ p,p < t.1→p < J.size→standAt (putsD J D t x).1.bk (J.fr+ringAt J.at_ J.size p)=standAt D.bk (J.fr+ringAt J.at_ J.size p))):=by
 induction x with
 | nil=>exact fun D t _ h _ _ _=>⟨h,fun _=>⟨fun j b hb=>by simp [encP] at hb,fun _ _ _=>rfl⟩⟩
 | cons b x ih =>
  intro D t ho h ht hts hx
  simp only [List.length_cons] at hts
  have hb:b.length≤480:=hx b (by simp)
  have hpl:=place_in h.atl (show t.1 < J.size by omega)
  have hl:(J.blk t 1 b).length=512:=blkL_length hb
  rw [putsD]
  rcases wcode_in (k:=J.place t) ho (by have:=h.fits; omega) hl with ⟨_,h1,h2⟩ | ⟨_,h1,h2⟩
  ·have hc:¬ putC J D t 1 b=0:=by unfold putC; rw [h1]; decide
   have hd:(putD J D t 1 b).bk=D.bk:=by unfold putD; rw [h2]
   rw [if_neg hc]
   exact ⟨by rw [show (putD J D t 1 b,((0,0):Spot),putC J D t 1 b).1.bk=D.bk from hd]; exact h,fun h=>absurd h hc⟩
  ·have hc:putC J D t 1 b=0:=h1
   have hd:putD J D t 1 b=⟨wrote D.bk (J.place t) (J.blk t 1 b),true,spent D.left⟩:=h2
   rw [if_pos hc,hd]
   have h':Holds J.fr J.size J.at_ J.seq (wrote D.bk (J.place t) (J.blk t 1 b)) L:=h.wrote ht (by omega) (noEnd_piece hb) (upTo_blk (by decide) hb h.num)
   obtain ⟨k1,k2⟩:=ih ⟨wrote D.bk (J.place t) (J.blk t 1 b),true,spent D.left⟩ (behindS t (J.blk t 1 b)) rfl h' (by simp only [behindS]; omega) (by simp only [behindS]; omega) fun c hcx=>hx c (by simp [hcx])
   refine ⟨k1,fun hz=>?_⟩
   obtain ⟨k3,k4⟩:=k2 hz
   refine ⟨fun j c hj=>?_,fun p hp hps=>?_⟩
   ·cases j with
    | zero =>
     rw [Nat.add_zero,k4 t.1 (by simp [behindS]) (by omega)]
     simp only [encP,List.getElem?_cons_zero,Option.some.injEq] at hj
     subst hj
     have hi:J.place t < D.bk.length:=by have:=h.fits; omega
     show standAt (wrote D.bk (J.place t) (J.blk t 1 b)) (J.place t)=J.blk t 1 b
     unfold standAt
     rw [wrote_get,if_pos rfl,List.getElem?_eq_getElem hi]
     simp [Bk.stands]
    | succ j =>
     simp only [encP,List.getElem?_cons_succ] at hj
     have:=k3 j c hj
     simp only [behindS] at this
     rw [show t.1+(j+1)=t.1+1+j by omega]
     exact this
   ·rw [k4 p (by simp only [behindS]; omega) hps]
    show standAt (wrote D.bk (J.place t) (J.blk t 1 b)) _=_
    unfold standAt
    rw [wrote_get,if_neg (fun e=>?_)]
    have:p=t.1:=ringAt_inj h.atl hps (show t.1 < J.size by omega) (by unfold Jn.place at e; omega)
    omega
theorem set_ext {l l':List Bk} {k:Nat} {y:Bk} (hl:l'.length=l.length) (hk:k < l.length) (h1:l'[k]? = some y) (h2:∀ i x,i≠k→l[i]? = some x→l'[i]? = some x):l'=l.set k y:=by
 apply List.ext_getElem?
 intro i
 by_cases hi:i=k
 ·subst hi
  rw [h1,List.getElem?_set_self hk]
 ·rw [List.getElem?_set_ne (fun e=>hi e.symm)]
  rcases hx:l[i]? with _ | x
  ·rw [List.getElem?_eq_none (by rw [hl]; exact List.getElem?_eq_none_iff.1 hx)]
  ·exact h2 i x hi hx
theorem comes_clean {l:List Bk} (h:Clean l) (ps:List Int):comes l ps=l:=by
 apply List.ext_getElem?
 intro i
 rcases hx:l[i]? with _ | x
 ·rw [List.getElem?_eq_none (by rw [comes_length]; exact List.getElem?_eq_none_iff.1 hx)]
 ·rw [comes_at l ps i x hx,if_pos (h i x hx)]
  have:=h i x hx
  cases x
  simp_all
theorem comes_one {l:List Bk} (h:Clean l) {k:Nat} (hk:k < l.length) (b:Bytes) (ps:List Int):comes (wrote l k b) ps=l∨comes (wrote l k b) ps=l.set k ⟨b,[]⟩:=by
 obtain ⟨x,hx⟩:∃ x,l[k]? = some x:=⟨_,List.getElem?_eq_getElem hk⟩
 have hw:(wrote l k b)[k]? = some ⟨x.sure,[b]⟩:=by rw [wrote_get,if_pos rfl,hx,Option.map_some,h k x hx]; rfl
 have hlen:(comes (wrote l k b) ps).length=l.length:=by rw [comes_length,wrote_length]
 have hoth:∀ i y,i≠k→l[i]? = some y→(comes (wrote l k b) ps)[i]? = some y:=fun i y hi hy=>by
  have:(wrote l k b)[i]? = some y:=by rw [wrote_get,if_neg hi,hy]
  rw [comes_at _ ps i y this,if_pos (h i y hy)]
  have:=h i y hy
  cases y
  simp_all
 have hself:=comes_at _ ps k _ hw
 rw [if_neg (by simp)] at hself
 generalize pickAt ps (cnt (wrote l k b) k) ([b]:List Bytes).length=n at hself
 rcases cand_picked ⟨x.sure,[b]⟩ n with hp | hp
 ·left
  rw [hp] at hself
  rw [set_ext hlen hk hself hoth]
  apply List.ext_getElem?
  intro i
  by_cases hi:i=k
  ·subst hi
   rw [List.getElem?_set_self hk,hx]
   have:=h i x hx
   cases x
   simp_all
  ·rw [List.getElem?_set_ne (fun e=>hi e.symm)]
 ·right
  rw [List.mem_singleton.1 hp] at hself
  exact set_ext hlen hk hself hoth
theorem flushed_one {l:List Bk} (h:Clean l) {k:Nat} (hk:k < l.length) (b:Bytes):flushed (wrote l k b)=l.set k ⟨b,[]⟩:=by
 obtain ⟨x,hx⟩:∃ x,l[k]? = some x:=⟨_,List.getElem?_eq_getElem hk⟩
 refine set_ext (by rw [flushed_length,wrote_length]) hk ?_ fun i y hi hy=>?_
 ·have hw:(wrote l k b)[k]? = some ⟨x.sure,[b]⟩:=by rw [wrote_get,if_pos rfl,hx,Option.map_some,h k x hx]; rfl
  rw [flushed_at hw]
  rfl
 ·have:(wrote l k b)[i]? = some y:=by rw [wrote_get,if_neg hi,hy]
  rw [flushed_at this,Bk.stands_nil (h i y hy)]
  have:=h i y hy
  cases y
  simp_all
theorem holds_write (ho:D.on=true) (h:Holds J.fr J.size J.at_ J.seq D.bk L) (hs:J.spot=(encA J.at_ J.seq (0,0) L).2) {l:Bytes} (hr:takenBy L+nBlocks l.length≤J.size) :
  ((writeD J D l).2.2=0→Clean (writeD J D l).1.bk∧Holds J.fr J.size J.at_ J.seq (writeD J D l).1.bk (L++[l])) ∧
  ((writeD J D l).2.2≠0→∀ ps,Holds J.fr J.size J.at_ J.seq (comes (writeD J D l).1.bk ps) L∨Holds J.fr J.size J.at_ J.seq (comes (writeD J D l).1.bk ps) (L++[l])):=by
 have hah:J.ahead=takenBy L:=by
  have:=congrArg Prod.fst hs
  rw [encA_spot] at this
  simpa using this
 unfold nBlocks at hr
 obtain ⟨h1,h2,h3⟩:=went_puts (J:=J) (piecesL l) D J.spot ho h.fits h.atl (by rw [piecesL_length]; simp only; omega) (piecesL_short l)
 obtain ⟨p1,p2⟩:=holds_puts (piecesL l) D J.spot ho h (by simp only; omega) (by rw [piecesL_length]; simp only; omega) (piecesL_short l)
 unfold writeD
 by_cases hc:(putsD J D J.spot (piecesL l)).2.2=0
 ·rw [if_neg (by simpa using hc)]
  have hsp:=h3 hc
  obtain ⟨p3,_⟩:=p2 hc
  rw [hc] at h1
  have hon:(putsD J D J.spot (piecesL l)).1.on=true:=h1.ends.elim (·.2) fun h=>by cases h.1
  have hlen:=h1.len
  generalize hE:putsD J D J.spot (piecesL l)=E at *
  obtain ⟨D1,t1,c1⟩:=E
  simp only at hc hsp hon hlen p1 p3 ⊢
  have ht1:t1.1=takenBy L+nPieces l.length:=by rw [hsp,encP_spot,piecesL_length]; simp only; omega
  unfold closeD
  rcases fcode_in hon with ⟨_,f1,f2⟩ | ⟨_,f1,f2⟩
  ·rw [if_pos (by rw [f1]; decide),f2]
   refine ⟨fun e=>?_,fun _ ps=>.inl (p1.comes ps)⟩
   simp only at e
   rw [f1] at e
   cases e
  ·rw [if_neg (by rw [f1]; decide),f2]
   have cl:Clean (flushed D1.bk):=clean_flushed _
   have hH:Holds J.fr J.size J.at_ J.seq (flushed D1.bk) L:=p1.flushed
   have hkk:J.place t1 < (flushed D1.bk).length:=by
    have:=place_in (J:=J) h.atl (t:=t1) (by omega)
    have:=hH.fits
    omega
   have hset:Holds J.fr J.size J.at_ J.seq ((flushed D1.bk).set (J.place t1) ⟨J.blk t1 2 [],[]⟩) (L++[l]):=by
    have:=hH.ends (l:=l) (by unfold nBlocks; omega) (fun j b hb=>by
     rw [← hs] at hb
     have hj:=(List.getElem?_eq_some_iff.1 hb).1
     rw [encP_length,piecesL_length] at hj
     have hst:=p3 j b hb
     simp only [hah] at hst
     have hri:=ringAt_lt h.atl (show takenBy L+j < J.size by omega)
     have hft:=p1.fits
     obtain ⟨y,hy⟩:∃ y,D1.bk[J.fr+ringAt J.at_ J.size (takenBy L+j)]? = some y:=⟨_,List.getElem?_eq_getElem (by omega)⟩
     refine ⟨⟨y.stands,[]⟩,flushed_at hy,fun c hcc=>?_⟩
     unfold standAt at hst
     rw [hy,Option.map_some,Option.getD_some] at hst
     rcases hcc with hcc | hcc
     ·rw [hcc, ← hst]
     ·cases hcc)
    rw [← hs, ← hsp] at this
    unfold Jn.place
    rw [ht1]
    exact this
   have hl:(J.blk t1 2 []).length=512:=blkL_length (by simp)
   unfold putC putD
   rcases wcode_in (D:=⟨flushed D1.bk,true,spent D1.left⟩) (k:=J.place t1) rfl hkk hl with ⟨_,w1,w2⟩ | ⟨_,w1,w2⟩
   ·rw [if_pos (by rw [w1]; decide),w2]
    refine ⟨fun e=>?_,fun _ ps=>.inl ?_⟩
    ·simp only at e
     rw [w1] at e
     cases e
    ·simp only
     rw [comes_clean cl]
     exact hH
   ·rw [if_neg (by rw [w1]; decide),w2]
    rcases fcode_in (D:=⟨wrote (flushed D1.bk) (J.place t1) (J.blk t1 2 []),true,spent (spent D1.left)⟩) rfl with ⟨_,g1,g2⟩ | ⟨_,g1,g2⟩
    ·rw [if_pos (by rw [g1]; decide),g2]
     refine ⟨fun e=>?_,fun _ ps=>?_⟩
     ·simp only at e
      rw [g1] at e
      cases e
     ·simp only
      rcases comes_one cl hkk (J.blk t1 2 []) ps with e | e
      ·rw [e]; exact .inl hH
      ·rw [e]; exact .inr hset
    ·rw [if_neg (by rw [g1]; decide),g2]
     simp only
     rw [flushed_one cl hkk]
     refine ⟨fun _=>⟨fun i x hx=>?_,hset⟩,fun e=>absurd rfl e⟩
     by_cases hi:i=J.place t1
     ·subst hi
      rw [List.getElem?_set_self hkk,Option.some.injEq] at hx
      rw [← hx]
     ·rw [List.getElem?_set_ne (fun e=>hi e.symm)] at hx
      exact cl i x hx
 ·rw [if_pos hc]
  exact ⟨fun e=>absurd e hc,fun _ ps=>.inl (p1.comes ps)⟩
end
theorem puts_upto {J:Jn}:∀ (x:List Bytes) (D:Dv) (t:Spot) (n:Nat),Upto D n→Upto (putsD J D t x).1 (n+x.length)
 | [],_,_,_,h=>h
 | b::x,D,t,n,h=>by
  have h1:Upto (putD J D t 1 b) (n+1):=(wdev_upto h _ _).1
  rw [putsD,List.length_cons]
  split
  ·exact (puts_upto x _ _ (n+1) h1).more (by omega)
  ·exact h1.more (by omega)
theorem close_upto {J:Jn} {D:Dv} {t:Spot} {n:Nat} (h:Upto D n):Upto (closeD J D t).1 (n+3):=by
 have h1:=(fdev_upto h).1
 have h2:Upto (putD J (fdev D) t 2 []) (n+2):=(wdev_upto h1 _ _).1
 have h3:=(fdev_upto h2).1
 unfold closeD
 split
 ·exact h1.more (by omega)
 ·split
  ·exact h2.more (by omega)
  ·split
   ·exact h3
   ·exact h3
theorem write_upto {J:Jn} {D:Dv} {l:Bytes} {n:Nat} (h:Upto D n):Upto (writeD J D l).1 (n+nPieces l.length+3):=by
 have h1:=puts_upto (J:=J) (piecesL l) D J.spot n h
 rw [piecesL_length] at h1
 unfold writeD
 split
 ·exact h1.more (by omega)
 ·exact close_upto h1
end Go.Proofs.YtgkofgifoiinkaaGreat
