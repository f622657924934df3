/- A group of one child, joined with a neighbour where both go into one node, or where it can't stand alone: the walk of join; condition: the node's children stand in the blocks as a tree's do. -/
import Derived.Test.YtgekeemhbnhelaaGreatM05
import Derived.Test.YtgekeemhbnhelaaGreatM16
import Derived.Test.YtgekeemhbnhelaaGreatM15
import Derived.Deep.CutRange
import Derived.Deep.DeepCutAuto
namespace Go.Proofs.YtgekeemhbnhelaaGreat
open Go.RowKit

def joinOk (own : Nd) (l : Nat) (ces : List En) : Bool := loneB own.lvl own.ents.length || decide (nsize own.lvl own.ents + nsize l ces ≤ 503)
def jOf (i m : Nat) : Int := if m = 0 then (i : Int) - 1 else (i : Int) + 1
/-- The neighbour that is looked at m-th does not do. -/
def NoJ (own : Nd) (l : Nat) (cs : Nat → List En) (es : List En) (i m : Nat) : Prop := ∀ (j : Nat) (a : En), jOf i m = (j : Int) → es[j]? = some a → joinOk own l (cs j) = false
/-- The blocks that join makes ahead of its loop. -/
structure JB (W : World) (z : Nat) (A B C N I : List Value) : Prop where
  a : Cel W z A 85
  b : Cel W (z + 1) B 176
  c : Cel W (z + 1 + 1) C 176
  n : Cel W (z + 1 + 1 + 1) N 85
  i : Cel W (z + 1 + 1 + 1 + 1) I 3
theorem JB.below {W W' : World} {z : Nat} {A B C N I : List Value} (h : JB W z A B C N I) (hb : Below W.heap.size W W') : JB W' z A B C N I :=
  ⟨h.a.below hb h.a.lt, h.b.below hb h.b.lt, h.c.below hb h.c.lt, h.n.below hb h.n.lt, h.i.below hb h.i.lt⟩
theorem JB.new (w : World) (A B C N I : List Value) : JB (((((w.alloc (.cells A.toArray 85)).alloc (.cells B.toArray 176)).alloc (.cells C.toArray 176)).alloc (.cells N.toArray 85)).alloc (.cells I.toArray 3)) w.heap.size A B C N I ∧
    Below w.heap.size w (((((w.alloc (.cells A.toArray 85)).alloc (.cells B.toArray 176)).alloc (.cells C.toArray 176)).alloc (.cells N.toArray 85)).alloc (.cells I.toArray 3)) := by
  obtain ⟨W1, hW1⟩ : ∃ W1, W1 = w.alloc (.cells A.toArray 85) := ⟨_, rfl⟩
  obtain ⟨W2, hW2⟩ : ∃ W2, W2 = W1.alloc (.cells B.toArray 176) := ⟨_, rfl⟩
  obtain ⟨W3, hW3⟩ : ∃ W3, W3 = W2.alloc (.cells C.toArray 176) := ⟨_, rfl⟩
  obtain ⟨W4, hW4⟩ : ∃ W4, W4 = W3.alloc (.cells N.toArray 85) := ⟨_, rfl⟩
  obtain ⟨W5, hW5⟩ : ∃ W5, W5 = W4.alloc (.cells I.toArray 3) := ⟨_, rfl⟩
  rw [← hW1, ← hW2, ← hW3, ← hW4, ← hW5]
  have z1 : W1.heap.size = w.heap.size + 1 := by rw [hW1]; simp
  have z2 : W2.heap.size = w.heap.size + 1 + 1 := by rw [hW2]; simp [z1]
  have z3 : W3.heap.size = w.heap.size + 1 + 1 + 1 := by rw [hW3]; simp [z2]
  have z4 : W4.heap.size = w.heap.size + 1 + 1 + 1 + 1 := by rw [hW4]; simp [z3]
  have c1 : Cel W1 w.heap.size A 85 := hW1 ▸ Cel.new w _ _
  have c2 : Cel W2 (w.heap.size + 1) B 176 := by rw [← z1, hW2]; exact Cel.new W1 _ _
  have c3 : Cel W3 (w.heap.size + 1 + 1) C 176 := by rw [← z2, hW3]; exact Cel.new W2 _ _
  have c4 : Cel W4 (w.heap.size + 1 + 1 + 1) N 85 := by rw [← z3, hW4]; exact Cel.new W3 _ _
  have c5 : Cel W5 (w.heap.size + 1 + 1 + 1 + 1) I 3 := by rw [← z4, hW5]; exact Cel.new W4 _ _
  have b1 : Below w.heap.size w W1 := hW1 ▸ (Below.refl _ _).alloc (Nat.le_refl _) _
  have b2 : Below W1.heap.size W1 W2 := hW2 ▸ (Below.refl _ _).alloc (Nat.le_refl _) _
  have b3 : Below W2.heap.size W2 W3 := hW3 ▸ (Below.refl _ _).alloc (Nat.le_refl _) _
  have b4 : Below W3.heap.size W3 W4 := hW4 ▸ (Below.refl _ _).alloc (Nat.le_refl _) _
  have b5 : Below W4.heap.size W4 W5 := hW5 ▸ (Below.refl _ _).alloc (Nat.le_refl _) _
  have b45 := b4.trans (b5.mono b4.size)
  have b35 := b3.trans (b45.mono b3.size)
  have b25 := b2.trans (b35.mono b2.size)
  exact ⟨⟨c1.below b25 c1.lt, c2.below b35 c2.lt, c3.below b45 c3.lt, c4.below b5 c4.lt, c5⟩, b1.trans (b25.mono b1.size)⟩
section
variable {w w' : World} {tb db pb fr : Nat} {D : Dv} {l : List Pg} {wb x : Nat} {top : Nd} {k : Wk} {S F G : Nat → Prop} {tev ttv tv bv xv : Value}
/-- A new block is one's own too. -/
theorem StAt.wide (h : StAt w tb db pb fr D l wb top k S F G tev ttv tv bv xv) (hb : Below w.heap.size w w') (hx : w.heap.size ≤ x) (hxl : x < w'.heap.size) : StAt w' tb db pb fr D l wb top k (fun q => S q ∨ q = x) F G tev ttv tv bv xv ∧ Step S w w' (fun q => S q ∨ q = x) := by
  have hst : Step S w w' (fun q => S q ∨ q = x) := ⟨(Step.of_below hb S).only, fun q hq => hq.elim .inl fun e => .inr (e ▸ hx)⟩
  have hs : ∀ g, g < w.heap.size → w'.heap[g]? = w.heap[g]? := fun g hg => hb.block g hg
  exact ⟨{
    tr := h.tr.turn hst (fun q hq => hs q (h.tr.lt q (hq.elim (h.tr.fs q) (h.tr.gs q)))) (fun q hq => .inl hq) (fun q hq => hq.elim (fun h1 => Nat.lt_of_lt_of_le (h.tr.lt q h1) hb.size) (fun e => e ▸ hxl))
    cel := h.cel.below hb h.cel.lt, te := h.te.step hst, tt := h.tt.step hst
    rt := h.rt.keep (fun g hg => hs g (h.rt.own hg)) hst (fun _ h => .inl h), rb := h.rb.keep (fun g hg => hs g (h.rb.own hg)) hst (fun _ h => .inl h), rx := h.rx.keep (fun g hg => hs g (h.rx.own hg)) hst (fun _ h => .inl h)
    ws := .inl h.ws, wf := h.wf, tf := h.tf, bf := h.bf, xf := h.xf, tx := h.tx, tbn := h.tbn, bx := h.bx }, hst⟩
/-- A block of one's own that is none of the work's has turned. -/
theorem StAt.touch (h : StAt w tb db pb fr D l wb top k S F G tev ttv tv bv xv) (ho : Only (fun q => q = x) w w') (hx : S x) (hF : ¬ F x) (hG : ¬ G x) (hw : x ≠ wb) (ht : tv.ownBlock ≠ some x) (hbv : bv.ownBlock ≠ some x) (hxv : xv.ownBlock ≠ some x) :
    StAt w' tb db pb fr D l wb top k S F G tev ttv tv bv xv ∧ Step S w w' S := by
  have hst : Step S w w' S := ⟨ho.mono fun q _ hq => hq ▸ hx, fun q hq => .inl hq⟩
  have hs : ∀ g, g < w.heap.size → g ≠ x → w'.heap[g]? = w.heap[g]? := fun g hg hne => ho.block g hg hne
  exact ⟨{
    tr := h.tr.turn hst (fun q hq => hs q (h.tr.lt q (hq.elim (h.tr.fs q) (h.tr.gs q))) fun e => hq.elim (fun h1 => hF (e ▸ h1)) (fun h1 => hG (e ▸ h1))) (fun q hq => hq) (fun q hq => Nat.lt_of_lt_of_le (h.tr.lt q hq) hst.size)
    cel := h.cel.kept (hs _ h.cel.lt fun e => hw e.symm), te := h.te.step hst, tt := h.tt.step hst
    rt := h.rt.keep (fun g hg => hs g (h.rt.own hg) fun e => ht (e ▸ hg)) hst (fun _ h => h), rb := h.rb.keep (fun g hg => hs g (h.rb.own hg) fun e => hbv (e ▸ hg)) hst (fun _ h => h), rx := h.rx.keep (fun g hg => hs g (h.rx.own hg) fun e => hxv (e ▸ hg)) hst (fun _ h => h)
    ws := h.ws, wf := h.wf, tf := h.tf, bf := h.bf, xf := h.xf, tx := h.tx, tbn := h.tbn, bx := h.bx }, hst⟩
end
/-- What join answers and leaves. -/
def Joins (w : World) (tb db pb fr : Nat) (D : Dv) (ps : List Pg) (wb : Nat) (top : Nd) (k : Wk) (S F G : Nat → Prop) (tev ttv tv bv xv : Value) (own : Nd) (l : Nat) (cs : Nat → List En) (es : List En) (i : Nat) (lv : Value) (e : Ending) (w' : World) : Prop :=
  ∃ (S' : Nat → Prop) (xv' : Value), Step S w w' S' ∧ (∀ q, S q → S' q) ∧ (∀ q, xv'.ownBlock = some q → xv.ownBlock = some q ∨ w.heap.size ≤ q) ∧ (∀ g, g < w.heap.size → g ≠ wb → xv.ownBlock ≠ some g → w'.heap[g]? = w.heap[g]?) ∧
    ((∃ (m j : Nat) (a : En) (v : Value) (L : List (List En)), m < 2 ∧ jOf i m = (j : Int) ∧ es[j]? = some a ∧ joinOk own l (cs j) = true ∧
        e = .returned (.tuple #[gpv v (if (j : Int) < i then (j : Int) else i) (if (j : Int) < i then (i : Int) + 1 else (j : Int) + 1), err 0]) ∧ Halved l (withE (j : Int) i own.ents (cs j)) L ∧ Rd kdNd w' S' v (L.map (mkN l)) ∧
        StAt w' tb db pb fr D ps wb top ⟨k.T, k.BL, k.X ++ [a.page]⟩ S' F G tev ttv tv bv xv') ∨
     ((∀ m, m < 2 → NoJ own l cs es i m) ∧ e = .returned (.tuple #[gpv lv i ((i : Int) + 1), err 0]) ∧ Rd kdNd w' S' lv [own] ∧ StAt w' tb db pb fr D ps wb top k S' F G tev ttv tv bv xv'))

set_option maxRecDepth 100000 in
set_option maxHeartbeats 8000000 in
theorem join_any {w : World} {tb db pb fr : Nat} {D : Dv} {ps : List Pg} {wb : Nat} {top : Nd} {k : Wk} {S F G : Nat → Prop} {tev ttv tv bv xv : Value} (h : StAt w tb db pb fr D ps wb top k S F G tev ttv tv bv xv) (ho : D.on = true)
    {np : Int} {l : Nat} {nev ntv : Value} {es : List En} {nto : Bytes} (he : Rd kdEn w S nev es) (ht : Bsf w S ntv nto) (hl : l ≤ 4096) (hes : es.length ≤ 1000000)
    {lv : Value} {own : Nd} (hg : Rd kdNd w S lv [own]) (hfo : Few own.ents) (hno : own.ents.length ≤ 400000) {i : Nat} (hi : i < es.length) (cs : Nat → List En)
    (hcs : ∀ j a, es[j]? = some a → a.page < ps.length ∧ NdOk ps.length l (cs j) ∧ blkOf D fr a.page = sealL 3 (bodyL l (cs j)) ∧ (cs j).head?.map En.key = some a.key ∧ ∀ c, (cs j).getLast? = some c → aheadB c.key (endK es nto j) = true)
    (hX : k.X.length ≤ 4294967290) :
    Calls Tryz.prog 118 #[ptr wb, ndv np ((l : Int) + 1) nev ntv, gpv lv i ((i : Int) + 1)] w (Joins w tb db pb fr D ps wb top k S F G tev ttv tv bv xv own l cs es i lv) := by
  obtain ⟨nea, nec, rfl, _⟩ := he.shape
  obtain ⟨nta, ntc, rfl, _⟩ := ht.1.shape
  obtain ⟨g, o, cap, ea, ec, ta, tc, rfl, hgg, c0, c1, c2, c3, hre, hbt⟩ := hg.nod (i := 0) rfl
  rw [Nat.zero_mul, Nat.add_zero] at c0 c1 c2 c3
  obtain ⟨en, hen⟩ : ∃ en, en = es.length := ⟨_, rfl⟩
  obtain ⟨an, han⟩ : ∃ an, an = own.ents.length := ⟨_, rfl⟩
  rw [← hen] at hi
  rw [← hen]
  rw [← han] at c2
  have hwr : IntKind.i64.wrap ((i : Int) - 1) = (i : Int) - 1 := IntWalk.i64_in _ (by omega)
  have b1 : Below w.heap.size w (w.alloc (.cells #[.int .i64 np, .int .i64 ((l : Int) + 1), .slice nea en nec, .slice nta nto.length ntc] 85)) := (Below.refl _ _).alloc (Nat.le_refl _) _
  have b2 : Below w.heap.size w ((w.alloc (.cells #[.int .i64 np, .int .i64 ((l : Int) + 1), .slice nea en nec, .slice nta nto.length ntc] 85)).alloc (.cells #[.slice (some ⟨g, o, none⟩) 1 cap, .int .i64 (i : Int), .int .i64 ((i : Int) + 1)] 176)) := b1.alloc b1.size _
  have b3 : Below w.heap.size w (((w.alloc (.cells #[.int .i64 np, .int .i64 ((l : Int) + 1), .slice nea en nec, .slice nta nto.length ntc] 85)).alloc (.cells #[.slice (some ⟨g, o, none⟩) 1 cap, .int .i64 (i : Int), .int .i64 ((i : Int) + 1)] 176)).alloc (.cells #[.slice none 0 0, .int .i64 0, .int .i64 0] 176)) := b2.alloc b2.size _
  have b4 : Below w.heap.size w ((((w.alloc (.cells #[.int .i64 np, .int .i64 ((l : Int) + 1), .slice nea en nec, .slice nta nto.length ntc] 85)).alloc (.cells #[.slice (some ⟨g, o, none⟩) 1 cap, .int .i64 (i : Int), .int .i64 ((i : Int) + 1)] 176)).alloc (.cells #[.slice none 0 0, .int .i64 0, .int .i64 0] 176)).alloc (.cells #[.int .i64 own.page, .int .i64 (own.lvl : Int), .slice ea an ec, .slice ta own.to.length tc] 85)) := b3.alloc b3.size _
  have d0 := (b3.cell (p := ⟨g, o, none⟩) hgg).trans c0
  have d1 := (b3.cell (p := ⟨g, o + 1, none⟩) hgg).trans c1
  have d2 := (b3.cell (p := ⟨g, o + 2, none⟩) hgg).trans c2
  have d3 := (b3.cell (p := ⟨g, o + 3, none⟩) hgg).trans c3
  have B4 := Lib.hid b4
  clear b1 b2 b3 b4 c0 c1 c2 c3
  have HH := Lib.hid (And.intro h (And.intro he (And.intro ht (And.intro hg (And.intro hfo (And.intro hno (And.intro hcs (And.intro hX (And.intro hre (And.intro hbt (And.intro hgg (And.intro hen han))))))))))))
  have hes' : en ≤ 1000000 := by omega
  clear h he ht hg hfo hno hcs hX hre hbt hen han hes
  go_enter Tryz.func118, Tryz.ntmps118
  go_wp2_with fail
  obtain ⟨hJ0, hJB⟩ := JB.new w [.int .i64 np, .int .i64 ((l : Int) + 1), .slice nea en nec, .slice nta nto.length ntc] [.slice (some ⟨g, o, none⟩) 1 cap, .int .i64 (i : Int), .int .i64 ((i : Int) + 1)] [.slice none 0 0, .int .i64 0, .int .i64 0] [.int .i64 own.page, .int .i64 (own.lvl : Int), .slice ea an ec, .slice ta own.to.length tc] [.int .i64 ((i : Int) - 1), .int .i64 ((i : Int) + 1)]
  obtain ⟨W5, hW5⟩ : ∃ W5, W5 = (((((w.alloc (.cells #[.int .i64 np, .int .i64 ((l : Int) + 1), .slice nea en nec, .slice nta nto.length ntc] 85)).alloc (.cells #[.slice (some ⟨g, o, none⟩) 1 cap, .int .i64 (i : Int), .int .i64 ((i : Int) + 1)] 176)).alloc (.cells #[.slice none 0 0, .int .i64 0, .int .i64 0] 176)).alloc (.cells #[.int .i64 own.page, .int .i64 (own.lvl : Int), .slice ea an ec, .slice ta own.to.length tc] 85)).alloc (.cells #[.int .i64 ((i : Int) - 1), .int .i64 ((i : Int) + 1)] 3)) := ⟨_, rfl⟩
  have hJ : JB W5 w.heap.size [.int .i64 np, .int .i64 ((l : Int) + 1), .slice nea en nec, .slice nta nto.length ntc] [.slice (some ⟨g, o, none⟩) 1 cap, .int .i64 (i : Int), .int .i64 ((i : Int) + 1)] [.slice none 0 0, .int .i64 0, .int .i64 0] [.int .i64 own.page, .int .i64 (own.lvl : Int), .slice ea an ec, .slice ta own.to.length tc] [.int .i64 ((i : Int) - 1), .int .i64 ((i : Int) + 1)] := hW5 ▸ hJ0
  have hJB5 : Below w.heap.size w W5 := hW5 ▸ hJB
  rw [← hW5]
  have hx1 : w.heap.size ≤ w.heap.size + 1 + 1 := by omega
  obtain ⟨hw5, st5⟩ := HH.out.1.wide hJB5 hx1 hJ.c.lt
  have hWS := Lib.hid (And.intro hw5 st5)
  clear hw5 st5 hx1
  have HJ := Lib.hid (And.intro hJ hJB5)
  clear hJ0 hJB hJ hJB5 hW5 d0 d1 d2 d3
  go_loopw [24] (fun c wr => ∃ m : Nat, m ≤ 2 ∧ c = .int .i64 m ∧ Below W5.heap.size W5 wr ∧ ∀ x, x < m → NoJ own l cs es i x) (fun c _ => 2 - (intOf c).toNat)
  case atStart => exact ⟨0, Nat.zero_le _, rfl, Below.refl _ _, fun _ h => absurd h (Nat.not_lt_zero _)⟩
  case round =>
    obtain ⟨m, hm, rfl, hbr, hno⟩ := hrel
    have hj := HJ.out.1.below hbr
    by_cases hm2 : m < 2
    · obtain ⟨jj, hjj⟩ : ∃ jj, jj = jOf i m := ⟨_, rfl⟩
      have u4 : wr.cell? ⟨w.heap.size + 1 + 1 + 1 + 1, m, none⟩ = some (.int .i64 jj) := by
        rcases (show m = 0 ∨ m = 1 by omega) with rfl | rfl
        · rw [hjj]
          exact hj.i.cell 0
        · rw [hjj]
          exact hj.i.cell 1
      have n2 : wr.cell? ⟨w.heap.size, 2, none⟩ = some (.slice nea en nec) := hj.a.cell 2
      have hmi : (m : Int) < 2 := by omega
      have hmi0 : ¬ (m : Int) < 0 := by omega
      have hjb : -1 ≤ jj ∧ jj ≤ 1000001 := by
        rw [hjj]
        unfold jOf
        split <;> omega
      by_cases hneg : jj < 0
      · have H1 := Lib.hid (And.intro hbr (And.intro hno hjj))
        clear hbr hno hjj hj hjb
        go_wp2
        go_roundw
        case rel =>
          refine ⟨m + 1, by omega, by go_num, H1.out.1, fun x hx => ?_⟩
          rcases Nat.lt_or_ge x m with h | h
          · exact H1.out.2.1 x h
          · obtain rfl : x = m := by omega
            intro j a h1 h2
            rw [← H1.out.2.2] at h1
            omega
        case measure => simp [intOf]; omega
      · by_cases hge : (en : Int) ≤ jj
        · have H1 := Lib.hid (And.intro hbr (And.intro hno hjj))
          clear hbr hno hjj hj hjb
          go_wp2
          go_roundw
          case rel =>
            refine ⟨m + 1, by omega, by go_num, H1.out.1, fun x hx => ?_⟩
            rcases Nat.lt_or_ge x m with h | h
            · exact H1.out.2.1 x h
            · obtain rfl : x = m := by omega
              intro j a h1 h2
              rw [← H1.out.2.2] at h1
              have := (List.getElem?_eq_some_iff.1 h2).1
              have := HH.out.2.2.2.2.2.2.2.2.2.2.2.1
              omega
          case measure => simp [intOf]; omega
        · obtain ⟨j, hjn⟩ := Int.eq_ofNat_of_zero_le (show 0 ≤ jj by omega)
          subst hjn
          have hnge : ¬ (en : Int) ≤ (j : Int) := hge
          have hjlt : j < es.length := by have := HH.out.2.2.2.2.2.2.2.2.2.2.2.1; omega
          obtain ⟨a, ha⟩ : ∃ a, es[j]? = some a := ⟨_, List.getElem?_eq_getElem hjlt⟩
          have hen := HH.out.2.2.2.2.2.2.2.2.2.2.2.1
          obtain ⟨g1, g2, g3, g4, g5⟩ := HH.out.2.2.2.2.2.2.1 j a ha
          have A := fun (W1 : World) (hb1 : Below W5.heap.size W5 W1) => child_any (p := np) (ev := .slice nea en nec) (tv := .slice nta nto.length ntc) (i := j) W1 (show (l : Int) + 1 = (l : Int) + 1 from rfl) ⟨F, G, (hWS.out.1.below hb1).tr⟩ ho
            (by have := (HH.out.2.1.step hWS.out.2).step (Step.of_below hb1 _); rw [← hen] at this; exact this) ((HH.out.2.2.1.step hWS.out.2).step (Step.of_below hb1 _)) ha g1 hl g2 g3 g4 g5
          obtain ⟨Sx, hSx⟩ : ∃ Sx : World → Prop, ∀ W1, Sx W1 ↔ Below W5.heap.size W5 W1 := ⟨_, fun _ => Iff.rfl⟩
          have HX := Lib.hid (fun (W1 : World) (hW1 : Sx W1) => And.intro ((hWS.out.1.below ((hSx W1).1 hW1)).cel.cell 0) (And.intro ((HJ.out.1.below ((hSx W1).1 hW1)).a.cell 0) (And.intro ((HJ.out.1.below ((hSx W1).1 hW1)).a.cell 1) (And.intro ((HJ.out.1.below ((hSx W1).1 hW1)).a.cell 2) ((HJ.out.1.below ((hSx W1).1 hW1)).a.cell 3)))))
          have HS := Lib.hid hSx
          have HA := Lib.hid A
          have hD := (hSx wr.drew).2 hbr.drew
          have H1 := Lib.hid (And.intro hbr (And.intro hno (And.intro hjj ha)))
          clear hbr hno hjj hj hjb hjlt ha hen g1 g2 g3 g4 g5 A hSx hge
          go_upto_region 6 with fail
          go_cut [11, 12] from 25 to 68 (fun t11 t12 wx => ∃ (y : Nat) (ca xa : Option Addr) (cc xn xc : Nat), t11 = ptr y ∧ t12 = err 0 ∧ Below W5.heap.size W5 wx ∧ W5.heap.size ≤ y ∧ Cel wx y [.int .i64 (a.page : Int), .int .i64 (l : Int), .slice ca (cs j).length cc, .slice xa xn xc] 85 ∧ Rd kdEn wx (fun q => S q ∨ q = w.heap.size + 1 + 1) (.slice ca (cs j).length cc) (cs j))
          case first =>
            refine region_till 99 Sx (by kernel_rfl) hD (fun hS => ?_)
            refine take_till (i := 0) (some 38) (ptr wb) rfl rfl (by kernel_rfl) (by kernel_rfl) (by kernel_rfl) (by kernel_rfl) (by decide) (fun _ _ _ h => h) (by rfl) (fun W hW => ?_) hS ?_
            · have hx := HX.out W hW
              clear hW
              go_simp
            simp only [Act.put, List.setIfInBounds_toArray, List.set_cons_zero, List.set_cons_succ]
            refine take_till (i := 1) (some 39) (ptr wb) rfl rfl (by kernel_rfl) (by kernel_rfl) (by kernel_rfl) (by kernel_rfl) (by decide) (fun _ _ _ h => h) (by rfl) (fun W hW => ?_) hS ?_
            · have hx := HX.out W hW
              clear hW
              go_simp
            simp only [Act.put, List.setIfInBounds_toArray, List.set_cons_zero, List.set_cons_succ]
            refine take_till (i := 2) (some 40) (.pointer (some ⟨wb, 0, none⟩)) rfl rfl (by kernel_rfl) (by kernel_rfl) (by kernel_rfl) (by kernel_rfl) (by decide) (fun _ _ _ h => h) (by rfl) (fun W hW => ?_) hS ?_
            · have hx := HX.out W hW
              clear hW
              go_simp
            simp only [Act.put, List.setIfInBounds_toArray, List.set_cons_zero, List.set_cons_succ]
            refine take_till (i := 3) (some 41) (ptr tb) rfl rfl (by kernel_rfl) (by kernel_rfl) (by kernel_rfl) (by kernel_rfl) (by decide) (fun _ _ _ h => h) (by rfl) (fun W hW => ?_) hS ?_
            · have hx := HX.out W hW
              clear hW
              go_simp
            simp only [Act.put, List.setIfInBounds_toArray, List.set_cons_zero, List.set_cons_succ]
            refine take_till (i := 4) (some 42) (ndv np ((l : Int) + 1) (.slice nea en nec) (.slice nta nto.length ntc)) rfl rfl (by kernel_rfl) (by kernel_rfl) (by kernel_rfl) (by kernel_rfl) (by decide) (fun _ _ _ h => h) (by rfl) (fun W hW => ?_) hS ?_
            · have hx := HX.out W hW
              clear hW
              go_simp
            simp only [Act.put, List.setIfInBounds_toArray, List.set_cons_zero, List.set_cons_succ]
            refine take_till (i := 5) (some 43) (.int .i64 (j : Int)) rfl rfl (by kernel_rfl) (by kernel_rfl) (by kernel_rfl) (by kernel_rfl) (by decide) (fun _ _ _ h => h) (by rfl) (fun W hW => ?_) hS ?_
            · have hx := HX.out W hW
              clear hW
              go_simp
            simp only [Act.put, List.setIfInBounds_toArray, List.set_cons_zero, List.set_cons_succ]
            have A2 := HA.out wr.drew H1.out.1.drew
            obtain ⟨g1, g2, g3, g4, g5⟩ := HH.out.2.2.2.2.2.2.1 j a H1.out.2.2.2
            have hen := HH.out.2.2.2.2.2.2.2.2.2.2.2.1
            have hwd := (hWS.out.1.below H1.out.1.drew).wide (x := wr.drew.heap.size) ((Below.refl wr.drew.heap.size wr.drew).alloc (Nat.le_refl _) (.cells #[.int .i64 0, .int .i64 0, .slice none 0 0, .slice none 0 0] 85)) (Nat.le_refl _) (by simp)
            have hstd := (hWS.out.2.trans (Step.of_below H1.out.1.drew _)).trans hwd.2
            have A3 := child_any (p := np) (ev := .slice nea en nec) (tv := .slice nta nto.length ntc) (i := j) (wr.drew.alloc (.cells #[.int .i64 0, .int .i64 0, .slice none 0 0, .slice none 0 0] 85)) (show (l : Int) + 1 = (l : Int) + 1 from rfl) ⟨F, G, hwd.1.tr⟩ ho
              (by have := HH.out.2.1.step hstd; rw [← hen] at this; exact this) (HH.out.2.2.1.step hstd) H1.out.2.2.2 g1 hl g2 g3 g4 g5
            clear g1 g2 g3 g4 g5 hen hwd hstd
            have hb3 : Below W5.heap.size W5 (wr.drew.alloc (.cells #[.int .i64 0, .int .i64 0, .slice none 0 0, .slice none 0 0] 85)) := H1.out.1.drew.alloc H1.out.1.size _
            have hD3 := (HS.out _).2 hb3
            have HB3 := Lib.hid (And.intro hb3 (And.intro hD3 (Cel.new wr.drew #[.int .i64 0, .int .i64 0, .slice none 0 0, .slice none 0 0] 85)))
            clear hb3 hD3
            refine two_till 6 10 (by kernel_rfl) rfl rfl (fun K hK => ?_) (fun K hK => ?_)
            · clear A3
              go_simp
              refine A2.mono ?_
              rintro e w5 ⟨cv, rfl, hnv, hb5⟩
              have hbb : Below W5.heap.size W5 w5 := H1.out.1.trans ((show Below wr.heap.size wr w5 from ⟨hb5.os, hb5.tape, hb5.output, hb5.size, hb5.block⟩).mono H1.out.1.size)
              have hS5 := (HS.out w5).2 hbb
              refine hK.out _ _ (fun _ => hS5) ?_
              clear hK K hS A2
              obtain ⟨ca, cc, xa, xc, rfl, hre, hbx⟩ := hnv
              obtain ⟨xn, hxn⟩ : ∃ xn, xn = (⟨(a.page : Int), l, cs j, endK es nto j⟩ : Nd).to.length := ⟨_, rfl⟩
              rw [← hxn]
              have hS := hS5
              have hb6 : Below W5.heap.size W5 (w5.alloc (.cells #[.int .i64 0, .int .i64 0, .slice none 0 0, .slice none 0 0] 85)) := hbb.alloc hbb.size _
              have hS6 := (HS.out _).2 hb6
              have C6 := Cel.new w5 #[.int .i64 0, .int .i64 0, .slice none 0 0, .slice none 0 0] 85
              have k0 := C6.cell 0
              have k1 := C6.cell 1
              have k2 := C6.cell 2
              have k3 := C6.cell 3
              have f0 := C6.frozen 0
              have f1 := C6.frozen 1
              have f2 := C6.frozen 2
              have f3 := C6.frozen 3
              have hy : W5.heap.size ≤ w5.heap.size := hbb.size
              have hb7 : Below W5.heap.size W5 (w5.alloc (.cells #[.int .i64 (a.page : Int), .int .i64 (l : Int), .slice ca (cs j).length cc, .slice xa xn xc] 85)) := hbb.alloc hbb.size _
              have C7 : Cel (w5.alloc (.cells #[.int .i64 (a.page : Int), .int .i64 (l : Int), .slice ca (cs j).length cc, .slice xa xn xc] 85)) w5.heap.size [.int .i64 (a.page : Int), .int .i64 (l : Int), .slice ca (cs j).length cc, .slice xa xn xc] 85 := Cel.new w5 _ _
              have hw58 : Below w5.heap.size w5 (w5.alloc (.cells #[.int .i64 (a.page : Int), .int .i64 (l : Int), .slice ca (cs j).length cc, .slice xa xn xc] 85)) := (Below.refl _ _).alloc (Nat.le_refl _) _
              have hre7 := hre.step (Step.of_below hw58 _)
              have hS7 := (HS.out _).2 hb7
              have H7 := Lib.hid (And.intro hy (And.intro hb7 (And.intro C7 hre7)))
              clear hre hbx hbb hS5 hb6 C6 hy hb7 C7 hw58 hre7 hxn hb5
              refine take_till (i := 7) (some 37) (.tuple #[ndv (a.page : Int) (l : Int) (.slice ca (cs j).length cc) (.slice xa xn xc), err 0]) rfl rfl (by kernel_rfl) (by kernel_rfl) (by kernel_rfl) (by kernel_rfl) (by decide) (fun _ _ _ h => h) (by rfl) (fun W hW => ?_) hS ?_
              · have hx := HX.out W hW
                clear hW
                go_simp
              simp only [Act.put, List.setIfInBounds_toArray, List.set_cons_zero, List.set_cons_succ]
              refine take_till (i := 8) (some 45) (ndv (a.page : Int) (l : Int) (.slice ca (cs j).length cc) (.slice xa xn xc)) rfl rfl (by kernel_rfl) (by kernel_rfl) (by kernel_rfl) (by kernel_rfl) (by decide) (fun _ _ _ h => h) (by rfl) (fun W hW => ?_) hS ?_
              · have hx := HX.out W hW
                clear hW
                go_simp
              simp only [Act.put, List.setIfInBounds_toArray, List.set_cons_zero, List.set_cons_succ]
              refine take_till (i := 9) (some 46) (err 0) rfl rfl (by kernel_rfl) (by kernel_rfl) (by kernel_rfl) (by kernel_rfl) (by decide) (fun _ _ _ h => h) (by rfl) (fun W hW => ?_) hS ?_
              · have hx := HX.out W hW
                clear hW
                go_simp
              simp only [Act.put, List.setIfInBounds_toArray, List.set_cons_zero, List.set_cons_succ]
              refine next_till 10 (by kernel_rfl) rfl (fun K hK => ?_)
              go_simp
              refine hK.out _ _ (fun _ => hS6) ?_
              clear hK K
              refine next_till 11 (by kernel_rfl) rfl (fun K hK => ?_)
              go_simp
              refine hK.out _ _ (fun _ => hS7) ?_
              clear hK K
              refine next_till 12 (by kernel_rfl) rfl (fun K hK => ?_)
              go_simp
              refine hK.out _ _ (fun _ => hS7) ?_
              clear hK K
              refine done_till (by kernel_rfl) ?_ _
              go_wp2_with fail
              go_meet
              case rel => exact ⟨_, ca, xa, cc, xn, xc, rfl, rfl, H7.out.2.1, H7.out.1, H7.out.2.2.1, H7.out.2.2.2⟩
            · clear A2
              go_simp
              refine hK.out _ _ (fun _ => HB3.out.2.1) ?_
              clear hK K hS
              refine next_till 6 (by kernel_rfl) rfl (fun K hK => ?_)
              go_simp
              refine A3.mono ?_
              rintro e w5 ⟨cv, rfl, hnv, hb5⟩
              have hbb : Below W5.heap.size W5 w5 := HB3.out.1.trans (hb5.mono HB3.out.1.size)
              have hS5 := (HS.out w5).2 hbb
              refine hK.out _ _ (fun _ => hS5) ?_
              clear hK K A3
              obtain ⟨ca, cc, xa, xc, rfl, hre, hbx⟩ := hnv
              obtain ⟨xn, hxn⟩ : ∃ xn, xn = (⟨(a.page : Int), l, cs j, endK es nto j⟩ : Nd).to.length := ⟨_, rfl⟩
              rw [← hxn]
              have hS := hS5
              have C6 := HB3.out.2.2.below hb5 HB3.out.2.2.lt
              have k0 : w5.cell? ⟨wr.heap.size, 0, none⟩ = some (.int .i64 0) := C6.cell 0
              have k1 : w5.cell? ⟨wr.heap.size, 1, none⟩ = some (.int .i64 0) := C6.cell 1
              have k2 : w5.cell? ⟨wr.heap.size, 2, none⟩ = some (.slice none 0 0) := C6.cell 2
              have k3 : w5.cell? ⟨wr.heap.size, 3, none⟩ = some (.slice none 0 0) := C6.cell 3
              have f0 : w5.frozen? ⟨wr.heap.size, 0, none⟩ = false := C6.frozen 0
              have f1 : w5.frozen? ⟨wr.heap.size, 1, none⟩ = false := C6.frozen 1
              have f2 : w5.frozen? ⟨wr.heap.size, 2, none⟩ = false := C6.frozen 2
              have f3 : w5.frozen? ⟨wr.heap.size, 3, none⟩ = false := C6.frozen 3
              have hy : W5.heap.size ≤ wr.heap.size := H1.out.1.size
              have hb7 := (((hbb.setCell (p := ⟨wr.heap.size, 0, none⟩) hy (.int .i64 (a.page : Int))).setCell (p := ⟨wr.heap.size, 1, none⟩) hy (.int .i64 (l : Int))).setCell (p := ⟨wr.heap.size, 2, none⟩) hy (.slice ca (cs j).length cc)).setCell (p := ⟨wr.heap.size, 3, none⟩) hy (.slice xa xn xc)
              have C7 := (((C6.set 0 (.int .i64 (a.page : Int))).set 1 (.int .i64 (l : Int))).set 2 (.slice ca (cs j).length cc)).set 3 (.slice xa xn xc)
              have hy6 : ∀ (q : Nat), q = wr.heap.size → ((S q ∨ q = w.heap.size + 1 + 1) ∨ q = wr.drew.heap.size) := fun q hq => .inr hq
              have st7 := ((((Step.refl (fun q => (S q ∨ q = w.heap.size + 1 + 1) ∨ q = wr.drew.heap.size) w5).set (p := ⟨wr.heap.size, 0, none⟩) (hy6 _ rfl) (.int .i64 (a.page : Int))).set (p := ⟨wr.heap.size, 1, none⟩) (hy6 _ rfl) (.int .i64 (l : Int))).set (p := ⟨wr.heap.size, 2, none⟩) (hy6 _ rfl) (.slice ca (cs j).length cc)).set (p := ⟨wr.heap.size, 3, none⟩) (hy6 _ rfl) (.slice xa xn xc)
              have hre7 := (hre.step st7).less (S' := fun q => S q ∨ q = w.heap.size + 1 + 1) (fun q h => .inl h)
              have hS7 := (HS.out _).2 hb7
              have H7 := Lib.hid (And.intro hy (And.intro hb7 (And.intro C7 hre7)))
              clear hre hbx hbb hS5 C6 hy hb7 C7 hy6 st7 hre7 hxn hb5
              refine take_till (i := 7) (some 37) (.tuple #[ndv (a.page : Int) (l : Int) (.slice ca (cs j).length cc) (.slice xa xn xc), err 0]) rfl rfl (by kernel_rfl) (by kernel_rfl) (by kernel_rfl) (by kernel_rfl) (by decide) (fun _ _ _ h => h) (by rfl) (fun W hW => ?_) hS ?_
              · have hx := HX.out W hW
                clear hW
                go_simp
              simp only [Act.put, List.setIfInBounds_toArray, List.set_cons_zero, List.set_cons_succ]
              refine take_till (i := 8) (some 45) (ndv (a.page : Int) (l : Int) (.slice ca (cs j).length cc) (.slice xa xn xc)) rfl rfl (by kernel_rfl) (by kernel_rfl) (by kernel_rfl) (by kernel_rfl) (by decide) (fun _ _ _ h => h) (by rfl) (fun W hW => ?_) hS ?_
              · have hx := HX.out W hW
                clear hW
                go_simp
              simp only [Act.put, List.setIfInBounds_toArray, List.set_cons_zero, List.set_cons_succ]
              refine take_till (i := 9) (some 46) (err 0) rfl rfl (by kernel_rfl) (by kernel_rfl) (by kernel_rfl) (by kernel_rfl) (by decide) (fun _ _ _ h => h) (by rfl) (fun W hW => ?_) hS ?_
              · have hx := HX.out W hW
                clear hW
                go_simp
              simp only [Act.put, List.setIfInBounds_toArray, List.set_cons_zero, List.set_cons_succ]
              refine next_till 11 (by kernel_rfl) rfl (fun K hK => ?_)
              go_simp
              refine hK.out _ _ (fun _ => hS7) ?_
              clear hK K
              refine next_till 12 (by kernel_rfl) rfl (fun K hK => ?_)
              go_simp
              refine hK.out _ _ (fun _ => hS7) ?_
              clear hK K
              refine done_till (by kernel_rfl) ?_ _
              go_wp2_with fail
              go_meet
              case rel => exact ⟨_, ca, xa, cc, xn, xc, rfl, rfl, H7.out.2.1, H7.out.1, H7.out.2.2.1, H7.out.2.2.2⟩
          case rest =>
            obtain ⟨y, ca, xa, cc, xn, xc, rfl, rfl, hb6, hy6, hC6, hre6⟩ := hcut
            generalize wc = W6 at *
            have hj6 := HJ.out.1.below hb6
            have hre0 := (HH.out.2.2.2.2.2.2.2.2.1.step hWS.out.2).step (Step.of_below hb6 _)
            have han := HH.out.2.2.2.2.2.2.2.2.2.2.2.2
            rw [← han] at hre0
            clear han
            have hfo := HH.out.2.2.2.2.1
            have hno := HH.out.2.2.2.2.2.1
            obtain ⟨g1, g2, g3, g4, g5⟩ := HH.out.2.2.2.2.2.2.1 j a H1.out.2.2.2
            have hfc : Few (cs j) := fun e he => ⟨by have := (g2.1.2.2.2 e he).1; omega, by have := (g2.1.2.2.2 e he).2.1; omega⟩
            have hlc : (cs j).length ≤ 400000 := by have := length_le_nsize l (cs j); have := g2.1.2.1; omega
            have A1 := fun (W1 : World) (hb1 : Below W6.heap.size W6 W1) => lone_any (p := own.page) (lvl := own.lvl) (tv := .slice ta own.to.length tc) W1 (hre0.step (Step.of_below hb1 _))
            have A2 := fun (W1 : World) (hb1 : Below W6.heap.size W6 W1) => size_any' (p := own.page) (lvl := own.lvl) (tv := .slice ta own.to.length tc) W1 (hre0.step (Step.of_below hb1 _)) hfo (by omega)
            have A3 := fun (W1 : World) (hb1 : Below W6.heap.size W6 W1) => size_any' (p := (a.page : Int)) (lvl := l) (tv := .slice xa xn xc) W1 (hre6.step (Step.of_below hb1 _)) hfc (by omega)
            have hx : nsize own.lvl own.ents ≤ 400000 * 131080 := Nat.le_trans (nsize_upto fun e he => hfo.esize (lvl := own.lvl) e he) (Nat.mul_le_mul_right _ hno)
            have hyy : nsize l (cs j) ≤ 503 := g2.1.2.1
            obtain ⟨Sy, hSy⟩ : ∃ Sy : World → Prop, ∀ W1, Sy W1 ↔ Below W6.heap.size W6 W1 := ⟨_, fun _ => Iff.rfl⟩
            have HY := Lib.hid (fun (W1 : World) (hW1 : Sy W1) => And.intro ((hj6.below ((hSy W1).1 hW1)).n.cell 0) (And.intro ((hj6.below ((hSy W1).1 hW1)).n.cell 1) (And.intro ((hj6.below ((hSy W1).1 hW1)).n.cell 2) (And.intro ((hj6.below ((hSy W1).1 hW1)).n.cell 3)
              (And.intro ((hC6.below ((hSy W1).1 hW1) hC6.lt).cell 0) (And.intro ((hC6.below ((hSy W1).1 hW1) hC6.lt).cell 1) (And.intro ((hC6.below ((hSy W1).1 hW1) hC6.lt).cell 2) ((hC6.below ((hSy W1).1 hW1) hC6.lt).cell 3))))))))
            have HSy := Lib.hid hSy
            have hD6 := (hSy W6.drew).2 (Below.refl _ _).drew
            have H6 := Lib.hid (And.intro hb6 (And.intro hy6 (And.intro hC6 (And.intro hre6 (And.intro hfc hlc)))))
            obtain ⟨jb, hjb2⟩ : ∃ jb, jb = joinOk own l (cs j) := ⟨_, rfl⟩
            have HJB := Lib.hid hjb2
            unfold joinOk at hjb2
            have e1 : decide (nsize own.lvl own.ents + nsize l (cs j) ≤ 503) = decide ((nsize own.lvl own.ents : Int) + (nsize l (cs j) : Int) ≤ 503) := by rw [decide_eq_decide]; omega
            rw [e1] at hjb2
            clear hj6 hre0 hb6 hy6 hC6 hre6 hfo hno g1 g2 g3 g4 g5 hfc hlc hSy e1 hD
            go_upto_region 9 with fail
            go_cut [60] from 25 to 68 (fun t60 wx => t60 = .bool jb ∧ Below W6.heap.size W6 wx)
            case first =>
              clear HX
              have HX := HY
              clear HY
              clear HJB
              generalize nsize own.lvl own.ents = x at *
              generalize nsize l (cs j) = yy at *
              obtain ⟨lb, hlb⟩ : ∃ lb, loneB own.lvl own.ents.length = lb := ⟨_, rfl⟩
              simp only [hlb] at A1 hjb2
              clear hlb
              have HJ2 := Lib.hid hjb2
              clear hjb2
              have hwx : IntKind.i64.wrap ((x : Int) + (yy : Int)) = (x : Int) + (yy : Int) := IntWalk.i64_in _ (by omega)
              refine region_till 99 Sy (by kernel_rfl) hD6 (fun hS => ?_)
              refine take_till (i := 0) (some 51) (ndv own.page (own.lvl : Int) (.slice ea an ec) (.slice ta own.to.length tc)) rfl rfl (by kernel_rfl) (by kernel_rfl) (by kernel_rfl) (by kernel_rfl) (by decide) (fun _ _ _ h => h) (by rfl) (fun W hW => ?_) hS ?_
              · have hx := HX.out W hW
                clear hW
                go_simp
              simp only [Act.put, List.setIfInBounds_toArray, List.set_cons_zero, List.set_cons_succ]
              have B1 := A1 W6.drew (Below.refl _ _).drew
              clear A1
              refine next_till 1 (by kernel_rfl) rfl (fun K hK => ?_)
              go_simp
              refine B1.mono ?_
              rintro e w7 ⟨rfl, hb7⟩
              have hb7' : Below W6.heap.size W6 w7 := ⟨hb7.os, hb7.tape, hb7.output, hb7.size, hb7.block⟩
              have hS7 := (HSy.out w7).2 hb7'
              refine hK.out _ _ (fun _ => hS7) ?_
              clear hK K B1 hS
              have hS := hS7
              have H7 := Lib.hid hb7'
              clear hS7 hb7 hb7' hD6
              cases lb with
              | true =>
                clear A2 A3
                refine take_till (i := 2) (some 53) (.bool true) rfl rfl (by kernel_rfl) (by kernel_rfl) (by kernel_rfl) (by kernel_rfl) (by decide) (fun _ _ _ h => h) (by rfl) (fun W hW => ?_) hS ?_
                · have hx := HX.out W hW
                  clear hW
                  go_simp
                simp only [Act.put, List.setIfInBounds_toArray, List.set_cons_zero, List.set_cons_succ]
                refine skip_till (i := 3) (some 54) rfl rfl (by kernel_rfl) (by kernel_rfl) (by kernel_rfl) (by kernel_rfl) (by decide) (fun _ _ _ h => h) (by rfl) hS ?_
                simp only [Act.put, List.setIfInBounds_toArray, List.set_cons_zero, List.set_cons_succ]
                refine skip_till (i := 4) (some 55) rfl rfl (by kernel_rfl) (by kernel_rfl) (by kernel_rfl) (by kernel_rfl) (by decide) (fun _ _ _ h => h) (by rfl) hS ?_
                simp only [Act.put, List.setIfInBounds_toArray, List.set_cons_zero, List.set_cons_succ]
                refine skip_till (i := 5) (some 56) rfl rfl (by kernel_rfl) (by kernel_rfl) (by kernel_rfl) (by kernel_rfl) (by decide) (fun _ _ _ h => h) (by rfl) hS ?_
                simp only [Act.put, List.setIfInBounds_toArray, List.set_cons_zero, List.set_cons_succ]
                refine skip_till (i := 6) (some 57) rfl rfl (by kernel_rfl) (by kernel_rfl) (by kernel_rfl) (by kernel_rfl) (by decide) (fun _ _ _ h => h) (by rfl) hS ?_
                simp only [Act.put, List.setIfInBounds_toArray, List.set_cons_zero, List.set_cons_succ]
                refine skip_till (i := 7) (some 58) rfl rfl (by kernel_rfl) (by kernel_rfl) (by kernel_rfl) (by kernel_rfl) (by decide) (fun _ _ _ h => h) (by rfl) hS ?_
                simp only [Act.put, List.setIfInBounds_toArray, List.set_cons_zero, List.set_cons_succ]
                refine skip_till (i := 8) (some 59) rfl rfl (by kernel_rfl) (by kernel_rfl) (by kernel_rfl) (by kernel_rfl) (by decide) (fun _ _ _ h => h) (by rfl) hS ?_
                simp only [Act.put, List.setIfInBounds_toArray, List.set_cons_zero, List.set_cons_succ]
                refine take_till (i := 9) (some 60) (.bool true) rfl rfl (by kernel_rfl) (by kernel_rfl) (by kernel_rfl) (by kernel_rfl) (by decide) (fun _ _ _ h => h) (by rfl) (fun W hW => ?_) hS ?_
                · have hx := HX.out W hW
                  clear hW
                  go_simp
                simp only [Act.put, List.setIfInBounds_toArray, List.set_cons_zero, List.set_cons_succ]
                refine done_till (by kernel_rfl) ?_ _
                go_wp2_with fail
                go_meet
                case rel => exact ⟨by rw [HJ2.out]; rfl, H7.out⟩
              | false =>
                skip
                refine take_till (i := 2) (some 53) (.bool false) rfl rfl (by kernel_rfl) (by kernel_rfl) (by kernel_rfl) (by kernel_rfl) (by decide) (fun _ _ _ h => h) (by rfl) (fun W hW => ?_) hS ?_
                · have hx := HX.out W hW
                  clear hW
                  go_simp
                simp only [Act.put, List.setIfInBounds_toArray, List.set_cons_zero, List.set_cons_succ]
                refine take_till (i := 3) (some 54) (ndv own.page (own.lvl : Int) (.slice ea an ec) (.slice ta own.to.length tc)) rfl rfl (by kernel_rfl) (by kernel_rfl) (by kernel_rfl) (by kernel_rfl) (by decide) (fun _ _ _ h => h) (by rfl) (fun W hW => ?_) hS ?_
                · have hx := HX.out W hW
                  clear hW
                  go_simp
                simp only [Act.put, List.setIfInBounds_toArray, List.set_cons_zero, List.set_cons_succ]
                refine take_till (i := 5) (some 56) (ndv (a.page : Int) (l : Int) (.slice ca (cs j).length cc) (.slice xa xn xc)) rfl rfl (by kernel_rfl) (by kernel_rfl) (by kernel_rfl) (by kernel_rfl) (by decide) (fun _ _ _ h => h) (by rfl) (fun W hW => ?_) hS ?_
                · have hx := HX.out W hW
                  clear hW
                  go_simp
                simp only [Act.put, List.setIfInBounds_toArray, List.set_cons_zero, List.set_cons_succ]
                have B2 := A2 w7 H7.out
                clear A2
                refine next_till 4 (by kernel_rfl) rfl (fun K hK => ?_)
                go_simp
                refine B2.mono ?_
                rintro e w8 ⟨rfl, hb8⟩
                have hb8' : Below W6.heap.size W6 w8 := H7.out.trans (hb8.mono H7.out.size)
                have hS8 := (HSy.out w8).2 hb8'
                have B3 := A3 w8 hb8'
                refine hK.out _ _ (fun _ => hS8) ?_
                clear hK K B2 A3 hS
                have H8 := Lib.hid hb8'
                clear hS8 hb8 hb8'
                refine next_till 6 (by kernel_rfl) rfl (fun K hK => ?_)
                go_simp
                refine B3.mono ?_
                rintro e w9 ⟨rfl, hb9⟩
                have hb9' : Below W6.heap.size W6 w9 := H8.out.trans (hb9.mono H8.out.size)
                have hS := (HSy.out w9).2 hb9'
                refine hK.out _ _ (fun _ => hS) ?_
                clear hK K B3
                have H9 := Lib.hid hb9'
                clear hb9 hb9'
                refine take_till (i := 7) (some 58) (.int .i64 ((x : Int) + (yy : Int))) rfl rfl (by kernel_rfl) (by kernel_rfl) (by kernel_rfl) (by kernel_rfl) (by decide) (fun _ _ _ h => h) (by rfl) (fun W hW => ?_) hS ?_
                · have hx := HX.out W hW
                  clear hW
                  go_simp
                simp only [Act.put, List.setIfInBounds_toArray, List.set_cons_zero, List.set_cons_succ]
                refine take_till (i := 8) (some 59) (.bool (decide ((x : Int) + (yy : Int) ≤ 503))) rfl rfl (by kernel_rfl) (by kernel_rfl) (by kernel_rfl) (by kernel_rfl) (by decide) (fun _ _ _ h => h) (by rfl) (fun W hW => ?_) hS ?_
                · have hx := HX.out W hW
                  clear hW
                  go_simp
                simp only [Act.put, List.setIfInBounds_toArray, List.set_cons_zero, List.set_cons_succ]
                refine take_till (i := 9) (some 60) (.bool (decide ((x : Int) + (yy : Int) ≤ 503))) rfl rfl (by kernel_rfl) (by kernel_rfl) (by kernel_rfl) (by kernel_rfl) (by decide) (fun _ _ _ h => h) (by rfl) (fun W hW => ?_) hS ?_
                · have hx := HX.out W hW
                  clear hW
                  go_simp
                simp only [Act.put, List.setIfInBounds_toArray, List.set_cons_zero, List.set_cons_succ]
                refine done_till (by kernel_rfl) ?_ _
                go_wp2_with fail
                go_meet
                case rel => exact ⟨by rw [HJ2.out]; simp, H9.out⟩
            case rest =>
              obtain ⟨rfl, hb9⟩ := hcut
              clear A1 A2 A3 hjb2 hD6 HY
              cases jb with
              | false =>
                have H9 := Lib.hid hb9
                clear hb9
                go_wp2_with fail
                refine ⟨⟨m + 1, by omega, by go_num, H6.out.1.trans (H9.out.mono H6.out.1.size), fun x hx => ?_⟩, ?_⟩
                · rcases Nat.lt_or_ge x m with h | h
                  · exact H1.out.2.1 x h
                  · obtain rfl : x = m := by omega
                    intro j' a' h1 h2
                    rw [← H1.out.2.2.1] at h1
                    obtain rfl : j = j' := by omega
                    exact HJB.out.symm
                · simp [intOf]
                  omega
              | true =>
                generalize wc = W7 at *
                have hb7 : Below W5.heap.size W5 W7 := H6.out.1.trans (hb9.mono H6.out.1.size)
                have hs7 := hWS.out.1.below hb7
                have hC7 := H6.out.2.2.1.below hb9 H6.out.2.2.1.lt
                have L := leave_any (lv := (l : Int)) (ev := .slice ca (cs j).length cc) (tv0 := .slice xa xn xc) (p := (a.page : Int)) hs7 (by omega) HH.out.2.2.2.2.2.2.2.1
                have hlv : leaves (a.page : Int) k = ⟨k.T, k.BL, k.X ++ [a.page]⟩ := by unfold leaves; rw [if_neg (by omega), Int.toNat_natCast]
                rw [hlv] at L
                have v0 := hC7.cell 0
                have v1 := hC7.cell 1
                have v2 := hC7.cell 2
                have v3 := hC7.cell 3
                have H7 := Lib.hid (And.intro hb7 (And.intro hC7 hb9))
                clear hb9 hb7 hs7 hC7 hlv
                go_wp2_with fail
                refine L.mono ?_
                rintro e w8 ⟨rfl, S8, xv8, hs8, st8, in8, xn8, sm8⟩
                clear L v0 v1 v2 v3
                obtain ⟨g1, g2, g3, g4, g5⟩ := HH.out.2.2.2.2.2.2.1 j a H1.out.2.2.2
                have hl0 := HH.out.1.tr.lt
                have hwl := HH.out.1.cel.lt
                have hJ7 := HJ.out.1.below H7.out.1
                have hz7 : w.heap.size < W7.heap.size := hJ7.a.lt
                have hkeep : ∀ g, w.heap.size ≤ g → g < W7.heap.size → w8.heap[g]? = W7.heap[g]? := fun g hg1 hg2 => sm8 g hg2 (by omega) (fun e => by have := HH.out.1.rx.own e; omega)
                have Cb8 := hJ7.b.kept (hkeep _ (by omega) hJ7.b.lt)
                have Cc8 := hJ7.c.kept (hkeep _ (by omega) hJ7.c.lt)
                have Cy8 := H7.out.2.1.kept (hkeep _ (by have := H6.out.2.1; have := HJ.out.2.size; omega) H7.out.2.1.lt)
                have hg8 := ((HH.out.2.2.2.1.step hWS.out.2).step (Step.of_below H7.out.1 _)).step st8
                have he8 := (H6.out.2.2.2.1.step (Step.of_below H7.out.2.2 _)).step st8
                have W := with_any (f := (i : Int)) (b := (i : Int) + 1) (j := (j : Int)) (cp := (a.page : Int)) (cl := l) (ctv := .slice xa xn xc) w8 hg8 rfl he8 HH.out.2.2.2.2.1 H6.out.2.2.2.2.1 HH.out.2.2.2.2.2.1 H6.out.2.2.2.2.2 hs8.tr.lt (by omega) (by omega)
                have y0 := Cy8.cell 0
                have y1 := Cy8.cell 1
                have y2 := Cy8.cell 2
                have y3 := Cy8.cell 3
                have x0 : w8.cell? ⟨w.heap.size + 1, 0, none⟩ = some (.slice (some ⟨g, o, none⟩) 1 cap) := Cb8.cell 0
                have x1 : w8.cell? ⟨w.heap.size + 1, 1, none⟩ = some (.int .i64 (i : Int)) := Cb8.cell 1
                have x2 : w8.cell? ⟨w.heap.size + 1, 2, none⟩ = some (.int .i64 ((i : Int) + 1)) := Cb8.cell 2
                have H8 := Lib.hid (And.intro hs8 (And.intro st8 (And.intro in8 (And.intro xn8 (And.intro Cc8 (And.intro hz7 (And.intro hwl sm8)))))))
                clear hs8 st8 in8 xn8 sm8 g1 g2 g3 g4 g5 hl0 hwl hJ7 hz7 hkeep Cb8 Cc8 Cy8 hg8 he8
                go_wp2_with fail
                refine W.mono ?_
                rintro e w9 ⟨v, L', rfl, hhl, hr9, hb9⟩
                clear W y0 y1 y2 y3 x0 x1 x2
                obtain ⟨va, vc, rfl, _⟩ := hr9.shape
                rw [List.length_map] at hr9
                rw [List.length_map]
                obtain ⟨f9, hf9⟩ : ∃ f9, f9 = (if (j : Int) < (i : Int) then (j : Int) else (i : Int)) := ⟨_, rfl⟩
                obtain ⟨b9, hb99⟩ : ∃ b9, b9 = (if (j : Int) < (i : Int) then (i : Int) + 1 else (j : Int) + 1) := ⟨_, rfl⟩
                rw [← hf9, ← hb99]
                have C9 := H8.out.2.2.2.2.1.below hb9 H8.out.2.2.2.2.1.lt
                have k0 := C9.cell 0
                have k1 := C9.cell 1
                have k2 := C9.cell 2
                have z0 := C9.frozen 0
                have z1 := C9.frozen 1
                have z2 := C9.frozen 2
                have H9 := Lib.hid (And.intro hhl (And.intro hr9 (And.intro hb9 (And.intro C9 (And.intro hf9 hb99)))))
                clear hhl hr9 hb9 C9 hf9 hb99
                go_wp2
                obtain ⟨hhl, hr9, hb9, C9, hf9, hb99⟩ := H9.out
                obtain ⟨hs8, st8, in8, xn8, _, hz7, hwl, sm8⟩ := H8.out
                have C10 := ((C9.set 0 (.slice va L'.length vc)).set 1 (.int .i64 f9)).set 2 (.int .i64 b9)
                have hl0 := HH.out.1.tr.lt
                have hzc := (HJ.out.1.below H7.out.1).c.lt
                have hs10 := (hs8.below hb9).touch (x := w.heap.size + 1 + 1) ((((Only.refl (fun q => q = w.heap.size + 1 + 1) w9).setCell (p := ⟨w.heap.size + 1 + 1, 0, none⟩) (.inl rfl) (.slice va L'.length vc)).setCell (p := ⟨w.heap.size + 1 + 1, 1, none⟩) (.inl rfl) (.int .i64 f9)).setCell (p := ⟨w.heap.size + 1 + 1, 2, none⟩) (.inl rfl) (.int .i64 b9))
                  (in8 _ (.inr rfl)) (fun hq => by have := hl0 _ (HH.out.1.tr.fs _ hq); omega) (fun hq => by have := hl0 _ (HH.out.1.tr.gs _ hq); omega) (fun e => by omega) (fun e => by have := HH.out.1.rt.own e; omega) (fun e => by have := HH.out.1.rb.own e; omega)
                  (fun e => (xn8 _ e).elim (fun e' => by have := HH.out.1.rx.own e'; omega) (fun e' => by omega))
                have hst := ((hWS.out.2.trans (Step.of_below H7.out.1 _)).trans st8).trans ((Step.of_below hb9 S8).trans hs10.2)
                refine bodyPost_ret (results_cell2 (g := w.heap.size + 1 + 1) rfl rfl C10 Tryz.underlying176 rfl (by kernel_rfl)) rfl ⟨S8, xv8, hst, fun q hq => in8 q (.inl hq), fun q hq => (xn8 q hq).imp (fun h => h) (fun h => by omega), fun g hg1 hg2 hg3 => ?_, .inl ⟨m, j, a, .slice va L'.length vc, L', hm2, H1.out.2.2.1.symm, H1.out.2.2.2, HJB.out.symm, ?_, hhl, hr9.step hs10.2, hs10.1⟩⟩
                · have hbj := HJ.out.2
                  have hz5 := hbj.size
                  have hb7 := H7.out.1
                  have e1 := hbj.block g hg1
                  have e2 := hb7.block g (by omega)
                  have e3 := sm8 g (by omega) hg2 hg3
                  have e4 := hb9.block g (by have := st8.size; omega)
                  rw [Below.heap_setCell _ _ _ _ (show g ≠ w.heap.size + 1 + 1 by omega), Below.heap_setCell _ _ _ _ (show g ≠ w.heap.size + 1 + 1 by omega), Below.heap_setCell _ _ _ _ (show g ≠ w.heap.size + 1 + 1 by omega), e4, e3, e2, e1]
                · rw [← hf9, ← hb99]
                  rfl
    · obtain rfl : m = 2 := by omega
      have u0 : wr.cell? ⟨w.heap.size + 1, 0, none⟩ = some (.slice (some ⟨g, o, none⟩) 1 cap) := hj.b.cell 0
      have u1 : wr.cell? ⟨w.heap.size + 1, 1, none⟩ = some (.int .i64 (i : Int)) := hj.b.cell 1
      have u2 : wr.cell? ⟨w.heap.size + 1, 2, none⟩ = some (.int .i64 ((i : Int) + 1)) := hj.b.cell 2
      have k0 := hj.c.cell 0
      have k1 := hj.c.cell 1
      have k2 := hj.c.cell 2
      have f0 := hj.c.frozen 0
      have f1 := hj.c.frozen 1
      have f2 := hj.c.frozen 2
      have H1 := Lib.hid (And.intro hbr (And.intro hno hj.c))
      clear hj hbr hno
      go_wp2
      obtain ⟨hbr, hno, hc⟩ := H1.out
      have C9 := ((hc.set 0 (.slice (some ⟨g, o, none⟩) 1 cap)).set 1 (.int .i64 (i : Int))).set 2 (.int .i64 ((i : Int) + 1))
      have hs1 := hWS.out.1.below hbr
      have hlt0 := HH.out.1.tr.lt
      have hs2 := hs1.touch (x := w.heap.size + 1 + 1) ((((Only.refl (fun q => q = w.heap.size + 1 + 1) wr).setCell (p := ⟨w.heap.size + 1 + 1, 0, none⟩) (.inl rfl) (.slice (some ⟨g, o, none⟩) 1 cap)).setCell (p := ⟨w.heap.size + 1 + 1, 1, none⟩) (.inl rfl) (.int .i64 (i : Int))).setCell (p := ⟨w.heap.size + 1 + 1, 2, none⟩) (.inl rfl) (.int .i64 ((i : Int) + 1)))
        (.inr rfl) (fun hq => by have := hlt0 _ (HH.out.1.tr.fs _ hq); omega) (fun hq => by have := hlt0 _ (HH.out.1.tr.gs _ hq); omega) (fun e => by have := HH.out.1.cel.lt; omega) (fun e => by have := HH.out.1.rt.own e; omega) (fun e => by have := HH.out.1.rb.own e; omega) (fun e => by have := HH.out.1.rx.own e; omega)
      have hst := (hWS.out.2.trans (Step.of_below hbr _)).trans hs2.2
      exact bodyPost_ret (results_cell2 (g := w.heap.size + 1 + 1) rfl rfl C9 Tryz.underlying176 rfl (by kernel_rfl)) rfl ⟨_, xv, hst, fun _ h => .inl h, fun _ h => .inl h, fun g hg1 hg2 hg3 => by
        have hbj := HJ.out.2
        have hz5 := hbj.size
        rw [Below.heap_setCell _ _ _ _ (show g ≠ w.heap.size + 1 + 1 by omega), Below.heap_setCell _ _ _ _ (show g ≠ w.heap.size + 1 + 1 by omega), Below.heap_setCell _ _ _ _ (show g ≠ w.heap.size + 1 + 1 by omega), hbr.block g (by omega), hbj.block g hg1], .inr ⟨hno, rfl, HH.out.2.2.2.1.step hst, hs2.1⟩⟩
end Go.Proofs.YtgekeemhbnhelaaGreat
