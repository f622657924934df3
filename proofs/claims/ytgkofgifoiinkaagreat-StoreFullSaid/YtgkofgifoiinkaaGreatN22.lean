/- A block of a journal is put: it is sealed behind its stamp and written; conditions: the device and the journal's head lie in memory, apart; fewer than 2^32 things are loose in each block. -/
import Derived.Test.YtgkofgifoiinkaaGreatN21
import Derived.Test.YtgkofgifoiinkaaGreatN06
import Derived.Test.YtgkofgifoiinkaaGreatN05
import Derived.Test.YtgkofgifoiinkaaGreatN04
namespace Go.Proofs.YtgkofgifoiinkaaGreat
open Go.RowKit
abbrev spotV (t:Spot):Value:=.agg #[.int .i64 (t.1:Int), .int .u64 (t.2:Int)]
abbrev spotL (t:Spot):List Value:=[.int .i64 (t.1:Int), .int .u64 (t.2:Int)]
abbrev jnL (b:Nat) (J:Jn):List Value:=[ptr b, .int .i64 (J.fr:Int), .int .i64 (J.size:Int), .int .i64 (J.at_:Int), .int .u64 (J.seq:Int), .int .u64 (J.held:Int), .int .i64 (J.ahead:Int), .int .u64 (J.sum:Int), .bool J.dead]
def JAt (w:World) (jb b:Nat) (J:Jn):Prop:=Cel w jb (jnL b J) 125
structure Jn.Fit (J:Jn):Prop where
 atl:J.at_ < J.size
 few:J.size≤4096
 frl:J.fr≤4096
 ahl:J.ahead≤J.size
 sql:J.seq+J.held < 18446744073709551616
 sml:J.sum < 18446744073709551616
section
variable {w w':World} {jb b:Nat} {J:Jn}
theorem JAt.kept (h:JAt w jb b J) (hk:w'.heap[jb]? = w.heap[jb]?):JAt w' jb b J:=Cel.kept h hk
theorem JAt.lt (h:JAt w jb b J):jb < w.heap.size:=Cel.lt h
theorem JAt.below (h:JAt w jb b J) (hb:Below w.heap.size w w'):JAt w' jb b J:=h.kept (hb.block jb h.lt)
theorem JAt.only {S:Nat→Prop} (h:JAt w jb b J) (ho:Only S w w') (hs:¬ S jb):JAt w' jb b J:=h.kept (ho.block jb h.lt hs)
theorem JAt.alloc (h:JAt w jb b J) (o:Obj):JAt (w.alloc o) jb b J:=h.below ((Below.refl _ _).alloc (Nat.le_refl _) _)
theorem JAt.cells (h:JAt w jb b J):w.cell? ⟨jb,0,none⟩=some (ptr b)∧w.cell? ⟨jb,1,none⟩=some (.int .i64 (J.fr:Int))∧w.cell? ⟨jb,2,none⟩=some (.int .i64 (J.size:Int)) ∧
  w.cell? ⟨jb,3,none⟩=some (.int .i64 (J.at_:Int))∧w.cell? ⟨jb,4,none⟩=some (.int .u64 (J.seq:Int))∧w.cell? ⟨jb,5,none⟩=some (.int .u64 (J.held:Int)) ∧
  w.cell? ⟨jb,6,none⟩=some (.int .i64 (J.ahead:Int))∧w.cell? ⟨jb,7,none⟩=some (.int .u64 (J.sum:Int))∧w.cell? ⟨jb,8,none⟩=some (.bool J.dead):=by
 refine ⟨?_,?_,?_,?_,?_,?_,?_,?_,?_⟩ <;> rw [Cel.cell h] <;> rfl
theorem blocks_any (n:Int) (w:World) (h1 : -9223372036854775808≤n) (h2:n≤9223372036854775807):Calls Tryz.prog 47 #[.int .i64 n] w fun e w'=>e = .returned (.int .i64 (nBlocks n.toNat:Nat))∧w=w':=by
 have hn:((nBlocks n.toNat:Nat):Int)=(max n 1-1) / 480+2:=by
  unfold nBlocks nPieces
  omega
 rw [hn]
 go_enter Tryz.func47,Tryz.ntmps47
 go_wp2
 go_ret
 exact ⟨rfl,rfl⟩
theorem free_any (h:JAt w jb b J) (hJ:J.Fit):Calls Tryz.prog 48 #[ptr jb] w fun e w'=>e = .returned (.int .i64 ((J.size:Int)-(J.ahead:Int)))∧∃ m,w'=w.drewN m:=by
 obtain ⟨_,_,c2,_,_,_,c6,_,_⟩:=h.cells
 have h1:=hJ.few
 have h2:=hJ.ahl
 clear h hJ
 go_enter Tryz.func48,Tryz.ntmps48
 go_wp2
 go_quiet (fail)
 go_wp2
 go_ret
 exact ⟨rfl,_,rfl⟩
theorem place_any (h:JAt w jb b J) (ha:J.at_ < J.size) (hs:J.size≤4096) (t:Spot) (ht:t.1≤J.size) :
  Calls Tryz.prog 127 #[ptr jb,spotV t] w fun e w'=>e = .returned (.int .i64 (ringAt J.at_ J.size t.1:Nat))∧Below w.heap.size w w':=by
 have hb:=h.alloc (.cells #[.int .i64 (t.1:Int), .int .u64 (t.2:Int)] 123)
 obtain ⟨_,_,c2,c3,_⟩:=hb.cells
 have hbl:=(Below.refl w.heap.size w).alloc (Nat.le_refl _) (.cells #[.int .i64 (t.1:Int), .int .u64 (t.2:Int)] 123)
 have HB:=Lib.hid hbl
 clear h hb hbl
 by_cases hle:J.size≤J.at_+t.1
 ·have hr:((ringAt J.at_ J.size t.1:Nat):Int)=(J.at_:Int)+(t.1:Int)-(J.size:Int):=by unfold ringAt; rw [if_pos hle]; omega
  rw [hr]
  have hle':(J.size:Int)≤(J.at_:Int)+(t.1:Int):=by omega
  clear hr hle
  go_enter Tryz.func127,Tryz.ntmps127
  go_wp2
  go_quiet (fail)
  go_wp2
  go_ret
  exact ⟨rfl,below_drewN HB.out _⟩
 ·have hr:((ringAt J.at_ J.size t.1:Nat):Int)=(J.at_:Int)+(t.1:Int):=by unfold ringAt; rw [if_neg hle]; omega
  rw [hr]
  have hle':(J.at_:Int)+(t.1:Int) < (J.size:Int):=by omega
  clear hr hle
  go_enter Tryz.func127,Tryz.ntmps127
  go_wp2
  go_quiet (fail)
  go_wp2
  go_ret
  exact ⟨rfl,below_drewN HB.out _⟩
end
open Go.RowKit
section
variable {w w':World} {jb b:Nat} {J:Jn}
def markV (J:Jn):Value:=.tuple #[.int .i64 (ringAt J.at_ J.size J.ahead:Nat), .int .u64 ((J.seq:Int)+(J.held:Int))]
theorem mark_any (h:JAt w jb b J) (hJ:J.Fit):Calls Tryz.prog 106 #[ptr jb] w fun e w'=>e = .returned (markV J)∧Below w.heap.size w w':=by
 have HX:=Lib.hid (fun (W:World) (hW:W.heap[jb]? = w.heap[jb]?)=>(h.kept hW).cells)
 have HJ:=Lib.hid (anZ hJ h)
 have hsq:(J.seq:Int)+(J.held:Int)≤18446744073709551615:=by have:=hJ.sql; omega
 clear h hJ
 unfold markV
 go_enter Tryz.func106,Tryz.ntmps106
 go_wp2
 refine region_till 99 (fun W=>W.heap[jb]? = w.heap[jb]?) (by kernel_rfl) rfl (fun hS=>?_)
 refine tkZ (i:=0) 6 (ptr jb) rfl rfl (by kernel_rfl) (fun _ _ _ h=>h) (by rfl) (fun W hW=>?_) hS ?_
 ·obtain ⟨c0,c1,c2,c3,c4,c5,c6,c7,c8⟩:=HX.out W hW
  clear hW
  go_simp
 simp only [Act.put,sAZ,sBZ,sCZ]
 refine tkZ (i:=1) 7 (ptr jb) rfl rfl (by kernel_rfl) (fun _ _ _ h=>h) (by rfl) (fun W hW=>?_) hS ?_
 ·obtain ⟨c0,c1,c2,c3,c4,c5,c6,c7,c8⟩:=HX.out W hW
  clear hW
  go_simp
 simp only [Act.put,sAZ,sBZ,sCZ]
 refine tkZ (i:=2) 8 (ptr jb) rfl rfl (by kernel_rfl) (fun _ _ _ h=>h) (by rfl) (fun W hW=>?_) hS ?_
 ·obtain ⟨c0,c1,c2,c3,c4,c5,c6,c7,c8⟩:=HX.out W hW
  clear hW
  go_simp
 simp only [Act.put,sAZ,sBZ,sCZ]
 refine tkZ (i:=3) 9 (.pointer (some ⟨jb,6,none⟩)) rfl rfl (by kernel_rfl) (fun _ _ _ h=>h) (by rfl) (fun W hW=>?_) hS ?_
 ·obtain ⟨c0,c1,c2,c3,c4,c5,c6,c7,c8⟩:=HX.out W hW
  clear hW
  go_simp
 simp only [Act.put,sAZ,sBZ,sCZ]
 refine tkZ (i:=4) 10 (spotV J.spot) rfl rfl (by kernel_rfl) (fun _ _ _ h=>h) (by rfl) (fun W hW=>?_) hS ?_
 ·obtain ⟨c0,c1,c2,c3,c4,c5,c6,c7,c8⟩:=HX.out W hW
  clear hW
  go_simp
 simp only [Act.put,sAZ,sBZ,sCZ]
 refine tkZ (i:=6) 12 (ptr jb) rfl rfl (by kernel_rfl) (fun _ _ _ h=>h) (by rfl) (fun W hW=>?_) hS ?_
 ·obtain ⟨c0,c1,c2,c3,c4,c5,c6,c7,c8⟩:=HX.out W hW
  clear hW
  go_simp
 simp only [Act.put,sAZ,sBZ,sCZ]
 refine tkZ (i:=7) 13 (ptr jb) rfl rfl (by kernel_rfl) (fun _ _ _ h=>h) (by rfl) (fun W hW=>?_) hS ?_
 ·obtain ⟨c0,c1,c2,c3,c4,c5,c6,c7,c8⟩:=HX.out W hW
  clear hW
  go_simp
 simp only [Act.put,sAZ,sBZ,sCZ]
 refine tkZ (i:=8) 14 (.pointer (some ⟨jb,4,none⟩)) rfl rfl (by kernel_rfl) (fun _ _ _ h=>h) (by rfl) (fun W hW=>?_) hS ?_
 ·obtain ⟨c0,c1,c2,c3,c4,c5,c6,c7,c8⟩:=HX.out W hW
  clear hW
  go_simp
 simp only [Act.put,sAZ,sBZ,sCZ]
 refine tkZ (i:=9) 15 (.int .u64 (J.seq:Int)) rfl rfl (by kernel_rfl) (fun _ _ _ h=>h) (by rfl) (fun W hW=>?_) hS ?_
 ·obtain ⟨c0,c1,c2,c3,c4,c5,c6,c7,c8⟩:=HX.out W hW
  clear hW
  go_simp
 simp only [Act.put,sAZ,sBZ,sCZ]
 refine tkZ (i:=10) 16 (ptr jb) rfl rfl (by kernel_rfl) (fun _ _ _ h=>h) (by rfl) (fun W hW=>?_) hS ?_
 ·obtain ⟨c0,c1,c2,c3,c4,c5,c6,c7,c8⟩:=HX.out W hW
  clear hW
  go_simp
 simp only [Act.put,sAZ,sBZ,sCZ]
 refine tkZ (i:=11) 17 (ptr jb) rfl rfl (by kernel_rfl) (fun _ _ _ h=>h) (by rfl) (fun W hW=>?_) hS ?_
 ·obtain ⟨c0,c1,c2,c3,c4,c5,c6,c7,c8⟩:=HX.out W hW
  clear hW
  go_simp
 simp only [Act.put,sAZ,sBZ,sCZ]
 refine tkZ (i:=12) 18 (.pointer (some ⟨jb,5,none⟩)) rfl rfl (by kernel_rfl) (fun _ _ _ h=>h) (by rfl) (fun W hW=>?_) hS ?_
 ·obtain ⟨c0,c1,c2,c3,c4,c5,c6,c7,c8⟩:=HX.out W hW
  clear hW
  go_simp
 simp only [Act.put,sAZ,sBZ,sCZ]
 refine tkZ (i:=13) 19 (.int .u64 (J.held:Int)) rfl rfl (by kernel_rfl) (fun _ _ _ h=>h) (by rfl) (fun W hW=>?_) hS ?_
 ·obtain ⟨c0,c1,c2,c3,c4,c5,c6,c7,c8⟩:=HX.out W hW
  clear hW
  go_simp
 simp only [Act.put,sAZ,sBZ,sCZ]
 refine tkZ (i:=14) 20 (.int .u64 ((J.seq:Int)+(J.held:Int))) rfl rfl (by kernel_rfl) (fun _ _ _ h=>h) (by rfl) (fun W hW=>?_) hS ?_
 ·obtain ⟨c0,c1,c2,c3,c4,c5,c6,c7,c8⟩:=HX.out W hW
  clear hW
  go_simp
  exact IntWalk.u64_in _ (by omega)
 simp only [Act.put,sAZ,sBZ,sCZ]
 refine next_till 5 (by kernel_rfl) rfl (fun K hK=>?_)
 go_simp
 have hd:JAt w.drew jb b J:=HJ.out.2
 refine (place_any hd HJ.out.1.atl HJ.out.1.few J.spot HJ.out.1.ahl).mono ?_
 rintro e w2 ⟨rfl,hb⟩
 have hb':=(below_drewN (Below.refl w.heap.size w) 1).trans hb
 have k2:w2.heap[jb]? = w.heap[jb]?:=hb'.block jb HJ.out.2.lt
 clear hb hd
 refine hK.out _ _ (fun _=>k2) ?_
 clear hK K
 refine take_till (i:=15) (some 2) (.int .i64 (ringAt J.at_ J.size J.ahead:Nat)) rfl rfl (by kernel_rfl) (by kernel_rfl) (by kernel_rfl) (by kernel_rfl) (by decide) (fun _ _ _ h=>h) (by rfl) (fun W hW=>?_) k2 ?_
 ·clear hW
  go_simp
 simp only [Act.put,sAZ,sBZ,sCZ]
 refine next_till 16 (by kernel_rfl) rfl (fun K hK=>?_)
 go_simp
 refine hK.out _ _ (fun _=>k2) ?_
 clear hK K
 refine done_till (by kernel_rfl) ?_ _
 go_wp2
 go_ret2
 exact ⟨rfl,hb'⟩
def Jn.more (J:Jn) (t:Spot):Jn:={ J with held:=J.held+1,ahead:=t.1,sum:=t.2 }
def Jn.gone (J:Jn):Jn:={ J with at_:=ringAt J.at_ J.size J.ahead,seq:=J.seq+J.held,held:=0,ahead:=0,sum:=0 }
def Jn.dies (J:Jn):Jn:={ J with dead:=true }
def Turns (w:World) (jb b:Nat) (J:Jn) (w':World):Prop:=JAt w' jb b J∧Only (· = jb) w w'
theorem hold_any (h:JAt w jb b J) (hm:J.seq+J.held+1 < 18446744073709551616) (t:Spot) :
  Calls Tryz.prog 87 #[ptr jb,spotV t] w fun e w'=>e = .returned (.tuple #[])∧Turns w jb b (J.more t) w':=by
 have hb:=h.alloc (.cells #[.int .i64 (t.1:Int), .int .u64 (t.2:Int)] 123)
 obtain ⟨_,_,_,_,_,c5,c6,c7,_⟩:=hb.cells
 have f5:=Cel.frozen hb 5
 have f6:=Cel.frozen hb 6
 have f7:=Cel.frozen hb 7
 have hlt:w.heap.size≠jb:=fun e=>by have:=h.lt; omega
 have ho:Only (· = jb) w (w.alloc (.cells #[.int .i64 (t.1:Int), .int .u64 (t.2:Int)] 123)):=Only.of_below ((Below.refl _ _).alloc (Nat.le_refl _) _) _
 have H:=Lib.hid (anZ hb ho)
 have hh:(J.held:Int)+1≤18446744073709551615:=by omega
 clear h hb ho hm
 go_enter Tryz.func87,Tryz.ntmps87
 go_wp2
 refine ⟨rfl, .tuple #[],by kernel_rfl,rfl,?_,?_⟩
 ·exact ((H.out.1.set 5 (.int .u64 ((J.held:Int)+1))).set 6 (.int .i64 (t.1:Int))).set 7 (.int .u64 (t.2:Int))
 ·exact ((H.out.2.setCell (p:=⟨jb,5,none⟩) (.inl rfl) _).setCell (p:=⟨jb,6,none⟩) (.inl rfl) _).setCell (p:=⟨jb,7,none⟩) (.inl rfl) _
theorem forget_ok (h:JAt w jb b J) (hJ:J.Fit) (hd:J.dead=false):Calls Tryz.prog 83 #[ptr jb] w fun e w'=>e = .returned (.int .i64 0)∧Turns w jb b J.gone w':=by
 obtain ⟨_,_,_,_,_,_,_,_,c8⟩:=h.cells
 rw [hd] at c8
 have H:=Lib.hid (anZ hJ h)
 clear h hd hJ
 go_enter Tryz.func83,Tryz.ntmps83
 go_wp2_with fail
 refine (mark_any H.out.2 H.out.1).mono ?_
 rintro e w1 ⟨rfl,hb⟩
 have h1:=H.out.2.below hb
 obtain ⟨_,_,_,c3,c4,c5,c6,c7,_⟩:=h1.cells
 have f3:=Cel.frozen h1 3
 have f4:=Cel.frozen h1 4
 have f5:=Cel.frozen h1 5
 have f6:=Cel.frozen h1 6
 have f7:=Cel.frozen h1 7
 have H1:=Lib.hid (anZ h1 (Only.of_below hb (· = jb)))
 unfold markV
 clear hb h1 c8
 go_wp2
 go_ret
 refine ⟨rfl,?_,?_⟩
 ·have:=((((H1.out.1.set 3 (.int .i64 (ringAt J.at_ J.size J.ahead:Nat))).set 4 (.int .u64 ((J.seq:Int)+(J.held:Int)))).set 5 (.int .u64 0)).set 6 (.int .i64 0)).set 7 (.int .u64 0)
  exact this
 ·exact ((((H1.out.2.setCell (p:=⟨jb,3,none⟩) (.inl rfl) _).setCell (p:=⟨jb,4,none⟩) (.inl rfl) _).setCell (p:=⟨jb,5,none⟩) (.inl rfl) _).setCell (p:=⟨jb,6,none⟩) (.inl rfl) _).setCell (p:=⟨jb,7,none⟩) (.inl rfl) _
end
end Go.Proofs.YtgkofgifoiinkaaGreat
namespace Go.Proofs.YtgkofgifoiinkaaGreat
open Go.RowKit
theorem str_not {l m:Bytes} (h:l≠m):(l == m)=false:=by
 rw [beq_eq_false_iff_ne]
 exact h
theorem equal_any {a b:Value} {l m:Bytes} (w:World) (ha:Bs w a l) (hb:Bs w b m):Calls Tryz.prog 178 #[a,b] w fun e w'=>e = .returned (.bool (decide (l=m)))∧w=w':=by
 have k1:=run_string_bs bt (d:=9) Tryz.underlying9 w ha
 have k2:=run_string_bs bt (d:=9) Tryz.underlying9 w hb
 obtain ⟨a1,c1,rfl,_⟩:=ha.shape
 obtain ⟨a2,c2,rfl,_⟩:=hb.shape
 clear ha hb
 by_cases he:l=m
 ·subst he
  rw [show decide (l=l)=true by simp]
  go_enter Tryz.func178,Tryz.ntmps178
  go_wp2
  go_ret
  exact ⟨rfl,rfl⟩
 ·have hne:=str_not he
  rw [show decide (l=m)=false by simp [he]]
  clear he
  go_enter Tryz.func178,Tryz.ntmps178
  go_wp2
  go_ret
  exact ⟨rfl,rfl⟩
theorem run_slice_low {P:Program} {t e:TypeId} (T:ByteTy P t e) {v:Value} {n:Nat} {a:Option Addr} {cap:Nat} (hv:v = .slice a n cap) (k1:IntKind) (lo:Nat) (h1:lo≤n) :
  (∀ w1,(Instr.slice t v (some (.int k1 (lo:Int))) none none).run P w1 = .ok (sliced a lo n cap 1) w1):=by
 intro w1
 subst hv
 rw [run_slice_l w1 t a n cap T.slice' k1 _ (by omega) (by omega),T.elem,T.run_size]
 simp [Result.andThen]
theorem bs_from {w:World} {a:Option Addr} {n cap:Nat} {l:Bytes} (h:Bs w (.slice a n cap) l) (lo:Nat) (hl:lo≤n):Bs w (sliced a lo n cap 1) (l.drop lo):=by
 obtain ⟨a',cap',e,g1,g2,g3,g4⟩:=h
 simp only [Value.slice.injEq] at e
 obtain ⟨rfl,rfl,rfl⟩:=e
 have:=bs_sliced g1 g2 g3 g4 lo l.length hl (Nat.le_refl _)
 rwa [List.take_of_length_le (Nat.le_refl _)] at this
theorem hasPrefix_any {a b:Value} {l m:Bytes} (w:World) (ha:Bs w a l) (hb:Bs w b m):Calls Tryz.prog 143 #[a,b] w fun e w'=>e = .returned (.bool (decide (l.take m.length=m)))∧w=w':=by
 obtain ⟨a1,c1,rfl,ha'⟩:=ha.shape
 obtain ⟨a2,c2,rfl,hb'⟩:=hb.shape
 have hla:=ha.len
 have hlb:=hb.len
 by_cases hl:m.length≤l.length
 ·obtain ⟨v,hr,hv⟩:=run_slice_to_bs bt w ha' .i64 m.length hl
  have hq:(decide ((m.length:Int)≤(l.length:Int)))=true:=by simp; omega
  have H:=Lib.hid (anZ hv hb')
  clear ha hb ha' hb' hv
  generalize l.take m.length=l' at *
  go_enter Tryz.func143,Tryz.ntmps143
  go_wp2_with fail
  refine (equal_any w H.out.1 H.out.2).mono ?_
  rintro e w1 ⟨rfl,rfl⟩
  go_wp2
  go_ret
  exact ⟨rfl,rfl⟩
 ·have hq:(l.length:Int) < (m.length:Int):=by omega
  have hne:¬ l.take m.length=m:=fun e=>by have:=congrArg List.length e; rw [List.length_take] at this; omega
  rw [show decide (l.take m.length=m)=false by simp [hne]]
  clear ha hb ha' hb' hl hne
  go_enter Tryz.func143,Tryz.ntmps143
  go_wp2
  go_ret
  exact ⟨rfl,rfl⟩
theorem cutPrefix_yes {a b:Value} {l m:Bytes} {a1:Option Addr} {c1:Nat} (w:World) (hv:a = .slice a1 l.length c1) (ha:Bs w a l) (hb:Bs w b m) (h:l.take m.length=m) :
  Calls Tryz.prog 114 #[a,b] w fun e w'=>e = .returned (.tuple #[sliced a1 m.length l.length c1 1, .bool true])∧w=w':=by
 subst hv
 have hl:m.length≤l.length:=by have:=congrArg List.length h; rw [List.length_take] at this; omega
 have hr:=run_slice_low bt (rfl:(Value.slice a1 l.length c1) = .slice a1 l.length c1) .i64 m.length hl
 have hlb:=hb.len
 obtain ⟨a2,c2,rfl,hb'⟩:=hb.shape
 have hd:decide (l.take m.length=m)=true:=by simp [h]
 have H:=Lib.hid (anZ ha (anZ hb' hd))
 clear ha hb hb' h hd
 generalize sliced a1 m.length l.length c1 1=v at *
 go_enter Tryz.func114,Tryz.ntmps114
 go_wp2_with fail
 refine (hasPrefix_any w H.out.1 H.out.2.1).mono ?_
 rintro e w1 ⟨he,rfl⟩
 rw [H.out.2.2] at he
 subst he
 go_wp2
 go_ret2
 exact ⟨rfl,rfl⟩
theorem cutPrefix_no {a b:Value} {l m:Bytes} (w:World) (ha:Bs w a l) (hb:Bs w b m) (h:¬ l.take m.length=m) :
  Calls Tryz.prog 114 #[a,b] w fun e w'=>e = .returned (.tuple #[a, .bool false])∧w=w':=by
 have hd:decide (l.take m.length=m)=false:=by simp [h]
 have H:=Lib.hid (anZ ha (anZ hb hd))
 obtain ⟨a1,c1,rfl,_⟩:=ha.shape
 obtain ⟨a2,c2,rfl,_⟩:=hb.shape
 clear ha hb h hd
 go_enter Tryz.func114,Tryz.ntmps114
 go_wp2_with fail
 refine (hasPrefix_any w H.out.1 H.out.2.1).mono ?_
 rintro e w1 ⟨he,rfl⟩
 rw [H.out.2.2] at he
 subst he
 go_wp2
 go_ret2
 exact ⟨rfl,rfl⟩
section
variable {w w':World} {jb b:Nat} {J:Jn}
set_option maxHeartbeats 400000 in
theorem stamp_any (h:JAt w jb b J) (hJ:J.Fit) (t:Spot):Calls Tryz.prog 140 #[ptr jb,spotV t] w (Gives w (stampL J.at_ J.seq t.2)):=by
 have hb:=h.alloc (.cells #[.int .i64 (t.1:Int), .int .u64 (t.2:Int)] 123)
 have bl:=(Below.refl w.heap.size w).alloc (Nat.le_refl _) (.cells #[.int .i64 (t.1:Int), .int .u64 (t.2:Int)] 123)
 have cb:=Cel.new w #[.int .i64 (t.1:Int), .int .u64 (t.2:Int)] 123
 obtain ⟨_,_,_,c3,_,_,_,_,_⟩:=hb.cells
 have hw64:IntKind.u64.wrap (J.at_:Int)=J.at_:=IntWalk.u64_in _ (by have:=hJ.atl; have:=hJ.few; omega)
 have H:=Lib.hid (anZ hb (anZ bl cb))
 clear h hJ hb bl cb
 go_enter Tryz.func140,Tryz.ntmps140
 go_wp2_with fail
 refine (put_any J.at_ 2 _ (Bs.nil _) (by simp)).mono ?_
 rintro e w1 ⟨v1,rfl,o1,b1⟩
 have h1:=H.out.1.below b1
 obtain ⟨_,_,_,_,c4,_,_,_,_⟩:=h1.cells
 have H1:=Lib.hid (anZ h1 (anZ b1 o1))
 obtain ⟨a1,q1,rfl,_⟩:=o1.bs.shape
 clear c3 h1 b1 o1 hw64
 go_wp2_with fail
 refine (put_any J.seq 8 _ H1.out.2.2.bs (by simp [putL,mayB,beL_length])).mono ?_
 rintro e w2 ⟨v2,rfl,o2,b2⟩
 have k2:=(H.out.2.2.kept (H1.out.2.1.block _ (by simp))).kept (b2.block _ (by have:=H1.out.2.1.size; simp at this; omega))
 have c7:w2.cell? ⟨w.heap.size,1,none⟩=some (.int .u64 (t.2:Int)):=by rw [k2.cell]; rfl
 have H2:=Lib.hid (anZ b2 o2)
 obtain ⟨a2,q2,rfl,_⟩:=o2.bs.shape
 clear c4 k2 b2 o2
 go_wp2_with fail
 refine (put_any t.2 4 _ H2.out.2.bs (by simp [putL,mayB,beL_length])).mono ?_
 rintro e w3 ⟨v3,rfl,o3,b3⟩
 go_wp2
 go_ret
 have s1:=H.out.2.1.size
 have s2:=H1.out.2.1.size
 have s3:=H2.out.1.size
 refine ⟨v3,rfl,?_,H.out.2.1.trans ((H1.out.2.1.mono s1).trans ((H2.out.1.mono (Nat.le_trans s1 s2)).trans (b3.mono (Nat.le_trans s1 (Nat.le_trans s2 s3)))))⟩
 exact o3.mono (Nat.le_trans s1 (Nat.le_trans s2 s3))
set_option maxHeartbeats 400000 in
theorem results_cell {P:Program} {fn:Func} {t:Tmp} {ty:TypeId} (h:fn.results = #[.cell t ty]) {tmps:Array Value} {w:World} {a:Addr} {v:Value} (ha:tmps.getD t undef = .pointer (some a))
  (hl:(loadVar ty a).run P w = .ok v w):(results fn tmps).run P w = .ok v w:=by
 have ha':tmps[t]?.getD undef = .pointer (some a):=by rw [← Array.getD_eq_getD_getElem?]; exact ha
 simp [results,h,ha',asAddr,hl]
theorem load_spot {w:World} {g:Nat} {t:Spot} (h:Cel w g (spotL t) 123):(loadVar 123 ⟨g,0,none⟩).run Tryz.prog w = .ok (spotV t) w:=by
 have c0:w.cell? ⟨g,0,none⟩=some (.int .i64 (t.1:Int)):=by rw [h.cell]; rfl
 have c1:w.cell? ⟨g,1,none⟩=some (.int .u64 (t.2:Int)):=by rw [h.cell]; rfl
 go_simp
theorem takeN_sum {l:Bytes} (hl:l.length=512):takeN l 508 4=sumOf l:=by
 have hm:takeMay l 508 4∧(4:Int)≤l.length-508:=⟨⟨rfl,by decide,by omega⟩,by omega⟩
 unfold takeN
 rw [if_pos hm]
 rfl
set_option maxHeartbeats 400000 in
theorem behind_any (t:Spot) {v:Value} {l:Bytes} (w:World) (hv:Bs w v l) (hl:l.length=512) (ht:t.1≤4096) :
  Calls Tryz.prog 129 #[spotV t,v] w fun e w'=>e = .returned (spotV (behindS t l))∧Below w.heap.size w w':=by
 obtain ⟨a,c,rfl,hv'⟩:=hv.shape
 have hN:=takeN_sum hl
 have c1:=Cel.new w #[.int .i64 (t.1:Int), .int .u64 (t.2:Int)] 123
 have b1:=(Below.refl w.heap.size w).alloc (Nat.le_refl _) (.cells #[.int .i64 (t.1:Int), .int .u64 (t.2:Int)] 123)
 have c1':=c1.alloc (.cells #[.int .i64 0, .int .u64 0] 123)
 have c2:=Cel.new (w.alloc (.cells #[.int .i64 (t.1:Int), .int .u64 (t.2:Int)] 123)) #[.int .i64 0, .int .u64 0] 123
 have b2:=b1.alloc (by simp) (.cells #[.int .i64 0, .int .u64 0] 123)
 have hvb:=hv'.below b2
 have hs0:w.heap.size+1=(w.alloc (.cells #[.int .i64 (t.1:Int), .int .u64 (t.2:Int)] 123)).heap.size:=by simp
 rw [← hs0] at c2
 have H:=Lib.hid (anZ (anZ hvb hl) (anZ hN (anZ c1' (anZ c2 b2))))
 rw [hl]
 clear hv hv' hvb hN c1 b1 c1' c2 b2 hs0 hl
 go_enter Tryz.func129,Tryz.ntmps129
 go_wp2_with fail
 have hb:=H.out.1.1
 rw [H.out.1.2] at hb
 refine (take_any 508 4 _ hb (by rw [H.out.1.2]; decide)).mono ?_
 rintro e w1 ⟨he,b3⟩
 rw [H.out.2.1] at he
 subst he
 have k1:=H.out.2.2.1.kept (b3.block _ (by simp; omega))
 have k2:=H.out.2.2.2.1.kept (b3.block _ (by simp))
 have d0:w1.cell? ⟨w.heap.size,0,none⟩=some (.int .i64 (t.1:Int)):=by rw [k1.cell]; rfl
 have d1:w1.cell? ⟨w.heap.size+1,0,none⟩=some (.int .i64 0):=by rw [k2.cell]; rfl
 have d2:w1.cell? ⟨w.heap.size+1,1,none⟩=some (.int .u64 0):=by rw [k2.cell]; rfl
 have f1:=k2.frozen 0
 have f2:=k2.frozen 1
 have hb':Below w.heap.size w w1:=H.out.2.2.2.2.trans (b3.mono H.out.2.2.2.2.size)
 have HH:=Lib.hid (anZ hb' k2)
 clear hb b3 k1 k2 hb'
 go_wp2
 have k3:Cel ((w1.setCell { block:=w.heap.size+1,off:=0 } (Value.int IntKind.i64 (↑t.fst+1))).setCell { block:=w.heap.size+1,off:=1 } (Value.int IntKind.u64 ↑(sumOf l))) (w.heap.size+1) (spotL (behindS t l)) 123:=(HH.out.2.set 0 (.int .i64 ((t.1:Int)+1))).set 1 (.int .u64 (sumOf l:Int))
 refine bodyPost_ret (results_cell rfl rfl (load_spot k3)) rfl ⟨rfl,?_⟩
 exact (HH.out.1.setCell (p:=⟨w.heap.size+1,0,none⟩) (by simp) _).setCell (p:=⟨w.heap.size+1,1,none⟩) (by simp) _
def Tells (w:World) (r:UInt8 × Bytes) (e:Ending) (w':World):Prop :=
 ∃ v,e = .returned (.tuple #[.int .u8 (r.1.toNat:Int),v])∧Bs w' v r.2∧(∀ q,v.ownBlock=some q→w.heap.size≤q)∧Below w.heap.size w w'
theorem sliced_own (a:Option Addr) (lo hi cap sz n c:Nat):(sliced a lo hi cap sz).ownBlock=(Value.slice a n c).ownBlock:=by
 unfold sliced
 cases a with
 | none=>simp [Value.ownBlock]
 | some a =>
  split
  ·rfl
  ·simp only [Option.map_some,Value.ownBlock,Addr.add]
   split <;> rfl
theorem tell_yes {a s u:Nat} {l:Bytes} (h1:(openV l).2.2=0) (h2:(openV l).2.1.take (stampL a s u).length=stampL a s u):tellL a s u l=((openV l).1,(openV l).2.1.drop (stampL a s u).length):=by
 rw [stampL_length] at *
 unfold tellL
 rw [if_pos ⟨h1,h2⟩]
theorem tell_no {a s u:Nat} {l:Bytes} (h:¬ ((openV l).2.2=0∧(openV l).2.1.take (stampL a s u).length=stampL a s u)):tellL a s u l=(0,[]):=by
 rw [stampL_length] at h
 unfold tellL
 rw [if_neg h]
theorem err_short {a s u:Nat} {l:Bytes} (h:(openV l).2.2≠0):¬ (openV l).2.1.take (stampL a s u).length=stampL a s u:=by
 rw [(openV_zero h).2.1]
 intro e
 have:=congrArg List.length e
 rw [stampL_length] at this
 cases this
set_option maxHeartbeats 400000 in
theorem tell_any (h:JAt w jb b J) (hJ:J.Fit) (t:Spot) {v:Value} {l:Bytes} (hv:Bs w v l) :
  Calls Tryz.prog 128 #[ptr jb,spotV t,v] w (Tells w (tellL J.at_ J.seq t.2 l)):=by
 have bl:=(Below.refl w.heap.size w).alloc (Nat.le_refl _) (.cells #[.int .i64 (t.1:Int), .int .u64 (t.2:Int)] 123)
 have cb:=Cel.new w #[.int .i64 (t.1:Int), .int .u64 (t.2:Int)] 123
 have hb:=h.below bl
 have hv':=hv.below bl
 obtain ⟨a1,q1,rfl,_⟩:=hv.shape
 have H:=Lib.hid (anZ hb (anZ bl (anZ cb (anZ hv' hJ))))
 clear h hJ hb bl cb hv hv'
 unfold Tells
 by_cases h1:(openV l).2.2=0
 ·by_cases h2:(openV l).2.1.take (stampL J.at_ J.seq t.2).length=stampL J.at_ J.seq t.2
  ·rw [tell_yes h1 h2]
   have HE:=Lib.hid (anZ h1 h2)
   clear h1 h2
   go_enter Tryz.func128,Tryz.ntmps128
   go_wp2_with fail
   refine (blkOpen_any _ H.out.2.2.2.1).mono ?_
   rintro e w1 ⟨v1,he,o1,b1⟩
   rw [HE.out.1] at he
   subst he
   have j1:=H.out.1.below b1
   have s0:=H.out.2.1.size
   have k1:=H.out.2.2.1.kept (b1.block _ (by simp))
   have c0:w1.cell? ⟨w.heap.size,0,none⟩=some (.int .i64 (t.1:Int)):=by rw [k1.cell]; rfl
   have c1:w1.cell? ⟨w.heap.size,1,none⟩=some (.int .u64 (t.2:Int)):=by rw [k1.cell]; rfl
   obtain ⟨a2,q2,rfl,_⟩:=o1.bs.shape
   have H1:=Lib.hid (anZ j1 (anZ o1 (H.out.2.1.trans (b1.mono s0))))
   clear j1 k1 b1 o1
   go_wp2_with fail
   refine (stamp_any H1.out.1 H.out.2.2.2.2 t).mono ?_
   rintro e w2 ⟨v2,rfl,o2,b2⟩
   have o1':=H1.out.2.1.bs.below b2
   have ow1:=H1.out.2.1
   have H2:=Lib.hid (anZ o2.bs (anZ o1' (anZ ow1 (H1.out.2.2.trans (b2.mono H1.out.2.2.size)))))
   clear c0 c1 o2 b2 o1' ow1
   go_wp2_with fail
   refine (cutPrefix_yes _ rfl H2.out.2.1 H2.out.1 HE.out.2).mono ?_
   rintro e w3 ⟨rfl,rfl⟩
   have hsl:=bs_from H2.out.2.1 (stampL J.at_ J.seq t.2).length (by rw [← HE.out.2,List.length_take]; exact Nat.min_le_right _ _)
   have hso:=sliced_own a2 (stampL J.at_ J.seq t.2).length (openV l).2.1.length q2 1 (openV l).2.1.length q2
   have H3:=Lib.hid (anZ hsl hso)
   clear hsl hso
   generalize sliced a2 (stampL J.at_ J.seq t.2).length (openV l).2.1.length q2 1=v3 at *
   go_wp2
   go_ret2
   refine ⟨v3,rfl,H3.out.1,fun q hq=>?_,H2.out.2.2.2⟩
   rw [H3.out.2] at hq
   have:=(H2.out.2.2.1.own hq).1
   omega
  ·rw [tell_no (fun e=>h2 e.2)]
   have HE:=Lib.hid (anZ h1 h2)
   clear h1 h2
   go_enter Tryz.func128,Tryz.ntmps128
   go_wp2_with fail
   refine (blkOpen_any _ H.out.2.2.2.1).mono ?_
   rintro e w1 ⟨v1,he,o1,b1⟩
   rw [HE.out.1] at he
   subst he
   have j1:=H.out.1.below b1
   have s0:=H.out.2.1.size
   have k1:=H.out.2.2.1.kept (b1.block _ (by simp))
   have c0:w1.cell? ⟨w.heap.size,0,none⟩=some (.int .i64 (t.1:Int)):=by rw [k1.cell]; rfl
   have c1:w1.cell? ⟨w.heap.size,1,none⟩=some (.int .u64 (t.2:Int)):=by rw [k1.cell]; rfl
   obtain ⟨a2,q2,rfl,_⟩:=o1.bs.shape
   have H1:=Lib.hid (anZ j1 (anZ o1 (H.out.2.1.trans (b1.mono s0))))
   clear j1 k1 b1 o1
   go_wp2_with fail
   refine (stamp_any H1.out.1 H.out.2.2.2.2 t).mono ?_
   rintro e w2 ⟨v2,rfl,o2,b2⟩
   have o1':=H1.out.2.1.bs.below b2
   have H2:=Lib.hid (anZ o2.bs (anZ o1' (H1.out.2.2.trans (b2.mono H1.out.2.2.size))))
   clear c0 c1 o2 b2 o1'
   go_wp2_with fail
   refine (cutPrefix_no _ H2.out.2.1 H2.out.1 HE.out.2).mono ?_
   rintro e w3 ⟨rfl,rfl⟩
   go_wp2
   go_ret2
   exact ⟨.slice none 0 0,rfl,Bs.nil _,(fun q hq=>by cases hq),H2.out.2.2⟩
 ·rw [tell_no (fun e=>h1 e.1)]
  have h2:=err_short (a:=J.at_) (s:=J.seq) (u:=t.2) h1
  obtain ⟨e1,e2⟩:∃ c,(openV l).2.2=c:=⟨_,rfl⟩
  rw [e2] at h1
  have HE:=Lib.hid (anZ e2 h2)
  clear e2 h2
  go_enter Tryz.func128,Tryz.ntmps128
  go_wp2_with fail
  refine (blkOpen_any _ H.out.2.2.2.1).mono ?_
  rintro e w1 ⟨v1,he,o1,b1⟩
  rw [HE.out.1] at he
  subst he
  have j1:=H.out.1.below b1
  have s0:=H.out.2.1.size
  have k1:=H.out.2.2.1.kept (b1.block _ (by simp))
  have c0:w1.cell? ⟨w.heap.size,0,none⟩=some (.int .i64 (t.1:Int)):=by rw [k1.cell]; rfl
  have c1:w1.cell? ⟨w.heap.size,1,none⟩=some (.int .u64 (t.2:Int)):=by rw [k1.cell]; rfl
  obtain ⟨a2,q2,rfl,_⟩:=o1.bs.shape
  have H1:=Lib.hid (anZ j1 (anZ o1 (H.out.2.1.trans (b1.mono s0))))
  clear j1 k1 b1 o1
  go_wp2_with fail
  refine (stamp_any H1.out.1 H.out.2.2.2.2 t).mono ?_
  rintro e w2 ⟨v2,rfl,o2,b2⟩
  have o1':=H1.out.2.1.bs.below b2
  have H2:=Lib.hid (anZ o2.bs (anZ o1' (H1.out.2.2.trans (b2.mono H1.out.2.2.size))))
  clear c0 c1 o2 b2 o1'
  go_wp2_with fail
  refine (cutPrefix_no _ H2.out.2.1 H2.out.1 HE.out.2).mono ?_
  rintro e w3 ⟨rfl,rfl⟩
  go_wp2
  go_ret2
  exact ⟨.slice none 0 0,rfl,Bs.nil _,(fun q hq=>by cases hq),H2.out.2.2⟩
end
end Go.Proofs.YtgkofgifoiinkaaGreat
namespace Go.Proofs.YtgkofgifoiinkaaGreat
open Go.RowKit
section
variable {w w':World} {jb b:Nat} {J:Jn} {D D':Dv} {F:Nat→Prop}
theorem dev_end {w4 w5:World} {S:Nat→Prop} (h0:∀ q,F q→q < w.heap.size) (hb:Below w.heap.size w w4) (hd:Dev w5 b D' (Grow F w4 w5)) (ho:Only F w4 w5) (hr:Only S w5 w') (hS:∀ q,S q→w.heap.size≤q∧q < w4.heap.size) :
  Dev w' b D' (Grow F w w')∧Only F w w':=by
 have s1:=hb.size
 have s2:=ho.size
 have s3:=hr.size
 refine ⟨(hd.other hr fun g hg hs=>?_).widen (fun q hq=>hq.imp id fun hq=>⟨by omega,by omega⟩) (fun q hq=>?_),((Only.of_below hb F).trans ho).then hr fun q hq=>.inr (hS q hq).1⟩
 ·have h1:=hS g hs
  rcases hg with hg | hg
  ·have:=h0 g hg; omega
  ·omega
 ·rcases hq with hq | hq
  ·have:=h0 q hq; omega
  ·exact hq.2
theorem results_cell_tmp {P:Program} {fn:Func} {t u:Tmp} {ty:TypeId} (h:fn.results = #[.cell t ty, .tmp u]) {tmps:Array Value} {w:World} {a:Addr} {v:Value} (ha:tmps.getD t undef = .pointer (some a))
  (hl:(loadVar ty a).run P w = .ok v w):(results fn tmps).run P w = .ok (.tuple #[v,tmps.getD u undef]) w:=by
 have ha':tmps[t]?.getD undef = .pointer (some a):=by rw [← Array.getD_eq_getD_getElem?]; exact ha
 simp [results,h,ha',asAddr,hl]
def Puts (w:World) (b:Nat) (F:Nat→Prop) (t:Spot) (c:Int) (D':Dv) (e:Ending) (w':World):Prop :=
 e = .returned (.tuple #[spotV t,err c])∧Dev w' b D' (Grow F w w')∧Only F w w'
set_option maxHeartbeats 1000000 in
theorem put_any' (h:JAt w jb b J) (hJ:J.Fit) (hD:Dev w b D F) (hjb:¬ F jb) (hs:Small D) (t:Spot) (ht:t.1 < J.size) {k:UInt8} (hk:k≠0) {kv:Value} (hkv:kv = .int .u8 (k.toNat:Int)) {pv:Value} {p:Bytes} (hp:Bs w pv p) (hpl:p.length≤480) :
  Calls Tryz.prog 111 #[ptr jb,spotV t,kv,pv] w (Puts w b F (putS J D t k p) (putC J D t k p) (putD J D t k p)):=by
 have b1:=(Below.refl w.heap.size w).alloc (Nat.le_refl _) (.cells #[.int .i64 (t.1:Int), .int .u64 (t.2:Int)] 123)
 have c1:=Cel.new w #[.int .i64 (t.1:Int), .int .u64 (t.2:Int)] 123
 have c1':=c1.alloc (.cells #[.int .i64 0, .int .u64 0] 123)
 have c2:=Cel.new (w.alloc (.cells #[.int .i64 (t.1:Int), .int .u64 (t.2:Int)] 123)) #[.int .i64 0, .int .u64 0] 123
 have b2:=b1.alloc (by simp) (.cells #[.int .i64 0, .int .u64 0] 123)
 have hs0:(w.alloc (.cells #[.int .i64 (t.1:Int), .int .u64 (t.2:Int)] 123)).heap.size=w.heap.size+1:=by simp
 rw [hs0] at c2
 have hF0:=hD.fl
 obtain ⟨pa,pc,rfl,_⟩:=hp.shape
 have HK:=Lib.hid (anZ hk hkv)
 have H:=Lib.hid (anZ (anZ h (anZ hJ (anZ hD (anZ hjb hs)))) (anZ (anZ c1' c2) (anZ b2 (anZ hp (anZ hpl ht)))))
 have hpl':(p.length:Int)≤480:=by omega
 clear h hJ hD hjb hs b1 c1 c1' c2 b2 hs0 hp hpl hF0 hk hkv ht
 unfold Puts
 go_enter Tryz.func111,Tryz.ntmps111
 go_wp2_with fail
 refine (stamp_any (H.out.1.1.below H.out.2.2.1) H.out.1.2.1 t).mono ?_
 rintro e w1 ⟨v1,rfl,o1,b1⟩
 generalize hW0:(w.alloc (.cells #[.int .i64 (t.1:Int), .int .u64 (t.2:Int)] 123)).alloc (.cells #[.int .i64 0, .int .u64 0] 123)=W0 at *
 have s0:=H.out.2.2.1.size
 have hsz0:W0.heap.size=w.heap.size+2:=by rw [← hW0]; simp
 have hsz:(stampL J.at_ J.seq t.2).length+p.length≤140737488355328:=by rw [stampL_length]; omega
 have hp1:=H.out.2.2.2.1.below (H.out.2.2.1.trans (b1.mono s0))
 have hz1:=b1.size
 have K1:=Lib.hid (anZ b1 (anZ hsz0 hW0))
 clear b1 s0 hsz0 hW0
 go_wp2_with (at_builtin; refine wpList_append_bs bt rfl _ _ rfl _ rfl rfl o1 hp1 hsz hz1 ?_; intro v2 w2 o2 g2)
 have b2:Below W0.heap.size W0 w2:=below_own K1.out.1 o1 g2
 have hl2:(stampL J.at_ J.seq t.2++p).length≤505:=by rw [List.length_append,stampL_length]; omega
 clear o1 hp1 hsz hz1 g2
 rw [HK.out.2]
 refine (blkSeal_ok k _ o2.bs HK.out.1 hl2).mono ?_
 rintro e w3 ⟨v3,rfl,o3,b3⟩
 have b3':Below W0.heap.size W0 w3:=b2.trans (b3.mono b2.size)
 have hl3:(sealL k (stampL J.at_ J.seq t.2++p)).length=512:=sealL_length hl2
 obtain ⟨g3,q3,rfl,hg3⟩:=o3.form (by rw [hl3]; decide)
 have o3':=o3.bs
 have hbk:J.blk t k p=sealL k (stampL J.at_ J.seq t.2++p):=rfl
 rw [← hbk] at o3' hl3
 rw [← hbk,hl3]
 rw [hl3] at o3'
 have ht':=H.out.2.2.2.2.2
 have hlF:∀ q,F q→q < w.heap.size:=H.out.1.2.2.1.fl
 have hoff:∀ q,(Value.slice (some ⟨g3,0,none⟩) 512 q3).ownBlock=some q→¬ F q:=fun q hq hf=>by
  have e:g3=q:=Option.some.inj hq
  have:=hlF q hf
  have:=b2.size
  have:=K1.out.2.1
  omega
 have j3:=(H.out.1.1.below H.out.2.2.1).below (b3'.mono (Nat.le_refl _))
 have k3:=H.out.2.1.1.kept (b3'.block w.heap.size (by have:=K1.out.2.1; omega))
 have z3:=H.out.2.1.2.kept (b3'.block (w.heap.size+1) (by have:=K1.out.2.1; omega))
 have bw3:Below w.heap.size w w3:=H.out.2.2.1.trans (b3'.mono H.out.2.2.1.size)
 have hsz3:=b3'.size
 have H3:=Lib.hid (anZ (anZ o3' hoff) (anZ (anZ j3 (anZ k3 z3)) (anZ bw3 (anZ hl3 ht'))))
 have hpc:((J.place t:Nat):Int)=(J.fr:Int)+(ringAt J.at_ J.size t.1:Nat):=by unfold Jn.place; omega
 have hrl:(ringAt J.at_ J.size t.1:Nat) < (4096:Int):=by have:=ringAt_lt H.out.1.2.1.atl ht'; have:=H.out.1.2.1.few; omega
 have hfl:(J.fr:Int)≤4096:=by have:=H.out.1.2.1.frl; omega
 have HP:=Lib.hid hpc
 have hz30:=K1.out.2.1
 clear o2 b2 hl2 o3 b3 b3' hg3 o3' hbk ht' hlF hoff j3 k3 z3 bw3 hl3 hpc
 go_wp2
 have HX:=Lib.hid (fun (W:World) (hW:W.heap[jb]? = w3.heap[jb]? ∧ W.heap[w.heap.size]? = w3.heap[w.heap.size]?)=>anZ (H3.out.2.1.1.kept hW.1).cells (anZ (show W.cell? ⟨w.heap.size,0,none⟩=some (.int .i64 (t.1:Int)) by rw [(H3.out.2.1.2.1.kept hW.2).cell]; rfl) (show W.cell? ⟨w.heap.size,1,none⟩=some (.int .u64 (t.2:Int)) by rw [(H3.out.2.1.2.1.kept hW.2).cell]; rfl)))
 refine region_till 99 (fun W=>W.heap[jb]? = w3.heap[jb]? ∧ W.heap[w.heap.size]? = w3.heap[w.heap.size]?) (by kernel_rfl) ⟨rfl,rfl⟩ (fun hS=>?_)
 refine tkZ (i:=0) 26 (ptr jb) rfl rfl (by kernel_rfl) (fun _ _ _ h=>h) (by rfl) (fun W hW=>?_) hS ?_
 ·obtain ⟨⟨c0,c1,c2,c3,c4,c5,c6,c7,c8⟩,d0,d1⟩:=HX.out W hW
  clear hW
  go_simp
 simp only [Act.put,sAZ,sBZ,sCZ]
 refine tkZ (i:=1) 27 (ptr jb) rfl rfl (by kernel_rfl) (fun _ _ _ h=>h) (by rfl) (fun W hW=>?_) hS ?_
 ·obtain ⟨⟨c0,c1,c2,c3,c4,c5,c6,c7,c8⟩,d0,d1⟩:=HX.out W hW
  clear hW
  go_simp
 simp only [Act.put,sAZ,sBZ,sCZ]
 refine tkZ (i:=2) 28 (.pointer (some ⟨jb,0,none⟩)) rfl rfl (by kernel_rfl) (fun _ _ _ h=>h) (by rfl) (fun W hW=>?_) hS ?_
 ·obtain ⟨⟨c0,c1,c2,c3,c4,c5,c6,c7,c8⟩,d0,d1⟩:=HX.out W hW
  clear hW
  go_simp
 simp only [Act.put,sAZ,sBZ,sCZ]
 refine tkZ (i:=3) 29 (ptr b) rfl rfl (by kernel_rfl) (fun _ _ _ h=>h) (by rfl) (fun W hW=>?_) hS ?_
 ·obtain ⟨⟨c0,c1,c2,c3,c4,c5,c6,c7,c8⟩,d0,d1⟩:=HX.out W hW
  clear hW
  go_simp
 simp only [Act.put,sAZ,sBZ,sCZ]
 refine tkZ (i:=4) 30 (ptr jb) rfl rfl (by kernel_rfl) (fun _ _ _ h=>h) (by rfl) (fun W hW=>?_) hS ?_
 ·obtain ⟨⟨c0,c1,c2,c3,c4,c5,c6,c7,c8⟩,d0,d1⟩:=HX.out W hW
  clear hW
  go_simp
 simp only [Act.put,sAZ,sBZ,sCZ]
 refine tkZ (i:=5) 31 (ptr jb) rfl rfl (by kernel_rfl) (fun _ _ _ h=>h) (by rfl) (fun W hW=>?_) hS ?_
 ·obtain ⟨⟨c0,c1,c2,c3,c4,c5,c6,c7,c8⟩,d0,d1⟩:=HX.out W hW
  clear hW
  go_simp
 simp only [Act.put,sAZ,sBZ,sCZ]
 refine tkZ (i:=6) 32 (.pointer (some ⟨jb,1,none⟩)) rfl rfl (by kernel_rfl) (fun _ _ _ h=>h) (by rfl) (fun W hW=>?_) hS ?_
 ·obtain ⟨⟨c0,c1,c2,c3,c4,c5,c6,c7,c8⟩,d0,d1⟩:=HX.out W hW
  clear hW
  go_simp
 simp only [Act.put,sAZ,sBZ,sCZ]
 refine tkZ (i:=7) 33 (.int .i64 (J.fr:Int)) rfl rfl (by kernel_rfl) (fun _ _ _ h=>h) (by rfl) (fun W hW=>?_) hS ?_
 ·obtain ⟨⟨c0,c1,c2,c3,c4,c5,c6,c7,c8⟩,d0,d1⟩:=HX.out W hW
  clear hW
  go_simp
 simp only [Act.put,sAZ,sBZ,sCZ]
 refine tkZ (i:=8) 34 (ptr jb) rfl rfl (by kernel_rfl) (fun _ _ _ h=>h) (by rfl) (fun W hW=>?_) hS ?_
 ·obtain ⟨⟨c0,c1,c2,c3,c4,c5,c6,c7,c8⟩,d0,d1⟩:=HX.out W hW
  clear hW
  go_simp
 simp only [Act.put,sAZ,sBZ,sCZ]
 refine tkZ (i:=9) 35 (spotV t) rfl rfl (by kernel_rfl) (fun _ _ _ h=>h) (by rfl) (fun W hW=>?_) hS ?_
 ·obtain ⟨⟨c0,c1,c2,c3,c4,c5,c6,c7,c8⟩,d0,d1⟩:=HX.out W hW
  clear hW
  go_simp
 simp only [Act.put,sAZ,sBZ,sCZ]
 refine tkZ (i:=12) 38 (.slice (some ⟨g3,0,none⟩) 512 q3) rfl rfl (by kernel_rfl) (fun _ _ _ h=>h) (by rfl) (fun W hW=>?_) hS ?_
 ·obtain ⟨⟨c0,c1,c2,c3,c4,c5,c6,c7,c8⟩,d0,d1⟩:=HX.out W hW
  clear hW
  go_simp
 simp only [Act.put,sAZ,sBZ,sCZ]
 refine next_till 10 (by kernel_rfl) rfl (fun K hK=>?_)
 go_simp
 refine (place_any (w:=w3.drew) H3.out.2.1.1 H.out.1.2.1.atl H.out.1.2.1.few t (Nat.le_of_lt H3.out.2.2.2.2)).mono ?_
 rintro e w4 ⟨rfl,b4⟩
 have b4':Below w3.heap.size w3 w4:=(below_drewN (Below.refl w3.heap.size w3) 1).trans b4
 have S4:w4.heap[jb]? = w3.heap[jb]? ∧ w4.heap[w.heap.size]? = w3.heap[w.heap.size]?:=⟨b4'.block jb H3.out.2.1.1.lt,b4'.block _ (by omega)⟩
 clear b4
 refine hK.out _ _ (fun _=>S4) ?_
 clear hK K hS
 have hS:=S4
 refine tkZ (i:=11) 37 (.int .i64 ((J.fr:Int)+(ringAt J.at_ J.size t.1:Nat))) rfl rfl (by kernel_rfl) (fun _ _ _ h=>h) (by rfl) (fun W hW=>?_) hS ?_
 ·clear hW
  go_simp
  exact IntWalk.i64_in _ (by omega)
 simp only [Act.put,sAZ,sBZ,sCZ]
 refine next_till 13 (by kernel_rfl) rfl (fun K hK=>?_)
 go_simp
 rw [← HP.out]
 have bw4:Below w.heap.size w w4:=H3.out.2.2.1.trans (b4'.mono H3.out.2.2.1.size)
 have s4:=b4'.size
 have b4s:w.heap.size+2≤w4.heap.size:=by omega
 refine (dwrite_any (H.out.1.2.2.1.below bw4) H.out.1.2.2.2.2 _ (H3.out.1.1.below b4') H3.out.1.2).mono ?_
 rintro e w5 ⟨rfl,hd5,ho5⟩
 have S5:w5.heap[jb]? = w3.heap[jb]? ∧ w5.heap[w.heap.size]? = w3.heap[w.heap.size]?:=⟨(ho5.block jb (by have:=H3.out.2.1.1.lt; omega) H.out.1.2.2.2.1).trans S4.1,(ho5.block _ (by omega) (fun hf=>by have:=H.out.1.2.2.1.fl _ hf; omega)).trans S4.2⟩
 have z5:w5.heap[w.heap.size+1]? = w3.heap[w.heap.size+1]?:=(ho5.block _ (by omega) (fun hf=>by have:=H.out.1.2.2.1.fl _ hf; omega)).trans (b4'.block _ (by omega))
 have v5:Bs w5 (.slice (some ⟨g3,0,none⟩) 512 q3) (J.blk t k p):=(H3.out.1.1.below b4').only ho5 H3.out.1.2
 have H5:=Lib.hid (anZ (anZ bw4 (anZ hd5 ho5)) (anZ v5 (anZ (H3.out.2.1.1.kept S5.1) (anZ (H3.out.2.1.2.1.kept S5.2) (H3.out.2.1.2.2.kept z5)))))
 clear hd5 ho5 z5 v5 bw4 s4 b4'
 refine hK.out _ _ (fun _=>S5) ?_
 clear hK K hS S4
 refine next_till 14 (by kernel_rfl) rfl (fun K hK=>?_)
 go_simp
 refine hK.out _ _ (fun _=>S5) ?_
 clear hK K
 refine done_till (by kernel_rfl) ?_ _
 have kz:=H5.out.2.2.2.2
 have e0:=kz.cell 0
 have e1:=kz.cell 1
 have f0:=kz.frozen 0
 have f1:=kz.frozen 1
 have kb:=H5.out.2.2.2.1
 have e2:w5.cell? ⟨w.heap.size,0,none⟩=some (.int .i64 (t.1:Int)):=by rw [kb.cell]; rfl
 have e3:w5.cell? ⟨w.heap.size,1,none⟩=some (.int .u64 (t.2:Int)):=by rw [kb.cell]; rfl
 replace e0:w5.cell? ⟨w.heap.size+1,0,none⟩=some (.int .i64 0):=e0
 replace e1:w5.cell? ⟨w.heap.size+1,1,none⟩=some (.int .u64 0):=e1
 have hz5:w.heap.size+1 < w4.heap.size:=by have:=b4s; omega
 clear kz kb S5
 have bw4:=H5.out.1.1
 by_cases hc:putC J D t k p=0
 ·have hS:putS J D t k p=behindS t (J.blk t k p):=by unfold putS; rw [if_pos hc]
  have hc':wcode D (J.place t:Nat) (J.blk t k p)=0:=hc
  rw [hc']
  have HE:=Lib.hid (anZ hS hc)
  clear hS hc hc'
  go_wp2_with fail
  refine (behind_any t _ H5.out.2.1 H3.out.2.2.2.1 (by have:=H.out.1.2.1.few; have:=H3.out.2.2.2.2; omega)).mono ?_
  rintro e w6 ⟨rfl,b6⟩
  have kz:=H5.out.2.2.2.2.below b6 H5.out.2.2.2.2.lt
  have g0:w6.cell? ⟨w.heap.size+1,0,none⟩=some (.int .i64 0):=kz.cell 0
  have g1:w6.cell? ⟨w.heap.size+1,1,none⟩=some (.int .u64 0):=kz.cell 1
  have i0:=kz.frozen 0
  have i1:=kz.frozen 1
  have H6:=Lib.hid (anZ kz b6)
  clear kz b6 e0 e1 f0 f1 e2 e3
  go_wp2
  have k7:Cel ((w6.setCell ⟨w.heap.size+1,0,none⟩ (.int .i64 ((behindS t (J.blk t k p)).1:Int))).setCell ⟨w.heap.size+1,1,none⟩ (.int .u64 ((behindS t (J.blk t k p)).2:Int))) (w.heap.size+1) (spotL (behindS t (J.blk t k p))) 123:=(H6.out.1.set 0 _).set 1 _
  refine bodyPost_ret (results_cell_tmp rfl rfl (load_spot k7)) rfl ?_
  rw [HE.out.1,HE.out.2]
  have ho7:=((Only.of_below H6.out.2 (fun q=>q=w.heap.size+1)).setCell (p:=⟨w.heap.size+1,0,none⟩) (.inl rfl) (.int .i64 ((behindS t (J.blk t k p)).1:Int))).setCell (p:=⟨w.heap.size+1,1,none⟩) (.inl rfl) (.int .u64 ((behindS t (J.blk t k p)).2:Int))
  have hz4:=H3.out.2.2.1.size
  obtain ⟨hdv,hon⟩:=dev_end H.out.1.2.2.1.fl bw4 H5.out.1.2.1 H5.out.1.2.2 ho7 (fun q hq=>by subst hq; omega)
  exact ⟨rfl,hdv,hon⟩
 ·have hS:putS J D t k p=(0,0):=by unfold putS; rw [if_neg hc]
  have hcc:wcode D (J.place t:Nat) (J.blk t k p)=putC J D t k p:=rfl
  rw [hcc]
  have HE:=Lib.hid hS
  clear hS hcc
  obtain ⟨c,hcx⟩:∃ c,putC J D t k p=c:=⟨_,rfl⟩
  rw [hcx] at hc
  rw [hcx]
  have hq:(c != 0)=true:=by simpa using hc
  have HC:=Lib.hid hcx
  have HZ:=Lib.hid (anZ hz5 b4s)
  clear hc hcx hz5 b4s e2 e3 hz30 hsz3
  go_wp2
  have k7:Cel ((w5.setCell ⟨w.heap.size+1,0,none⟩ (.int .i64 0)).setCell ⟨w.heap.size+1,1,none⟩ (.int .u64 0)) (w.heap.size+1) (spotL (0,0)) 123:=(H5.out.2.2.2.2.set 0 _).set 1 _
  refine bodyPost_ret (results_cell_tmp rfl rfl (load_spot k7)) rfl ?_
  rw [HE.out,HC.out]
  have ho7:=((Only.refl (fun q=>q=w.heap.size+1) w5).setCell (p:=⟨w.heap.size+1,0,none⟩) (.inl rfl) (.int .i64 0)).setCell (p:=⟨w.heap.size+1,1,none⟩) (.inl rfl) (.int .u64 0)
  obtain ⟨hdv,hon⟩:=dev_end H.out.1.2.2.1.fl bw4 H5.out.1.2.1 H5.out.1.2.2 ho7 (fun q hq=>by subst hq; have:=HZ.out.1; omega)
  exact ⟨rfl,hdv,hon⟩
end
end Go.Proofs.YtgkofgifoiinkaaGreat
