/- What is done to a leaf, as lists of pairs; what a change is: a pair put, or a key cut; no condition. · What stands for a leaf when what is to be done is done to it: the walk of redo at a leaf; condition: the leaf is a tree's. · The nodes that stand for the children of another one, as lists: alone, or joined with a neighbour; the node above them; no condition. -/
import Derived.Test.YtgekeemhbnhelaaGreatM21
import Derived.Test.YtgekeemhbnhelaaGreatM22
namespace Go.Proofs.YtgekeemhbnhelaaGreat
open Go.RowKit

theorem fnd_cons (e : En) (r : List En) (key : Bytes) : fnd (e :: r) key = if cmp e.key key < 0 then fnd r key + 1 else 0 := rfl
theorem fndIs_lt {e : En} {r : List En} {key : Bytes} (h : cmp e.key key < 0) : fndIs (e :: r) key = fndIs r key := by
  unfold fndIs
  rw [fnd_cons, if_pos h]
  rfl
theorem fndIs_ge {e : En} {r : List En} {key : Bytes} (h : ¬ cmp e.key key < 0) : fndIs (e :: r) key = decide (cmp e.key key = 0) := by
  unfold fndIs
  rw [fnd_cons, if_neg h]
  rfl
theorem put1E_eq (key val : Bytes) : ∀ prs : List Pr, put1E (prs.map prE) key val = (putP prs key val).map prE
  | [] => by simp [put1E, putP, fnd, fndIs, prE]
  | p :: r => by
    have ih := put1E_eq key val r
    rw [List.map_cons]
    by_cases h : cmp p.1 key < 0
    · have h' : cmp (prE p).key key < 0 := h
      have e1 : putP (p :: r) key val = p :: putP r key val := (if_pos h : (if cmp p.1 key < 0 then p :: putP r key val else if p.1 = key then (key, val) :: r else (key, val) :: p :: r) = _)
      rw [e1, List.map_cons, ← ih]
      unfold put1E
      rw [fndIs_lt h', fnd_cons, if_pos h', List.take_succ_cons, List.cons_append]
      congr 3
      split <;> simp
    · have h' : ¬ cmp (prE p).key key < 0 := h
      unfold put1E
      rw [fndIs_ge h', fnd_cons, if_neg h', List.take_zero, List.nil_append]
      unfold putP
      rw [if_neg h]
      by_cases hk : p.1 = key
      · rw [if_pos hk, if_pos (by rw [decide_eq_true_eq]; show cmp p.1 key = 0; rw [hk]; exact cmp_refl key)]
        rfl
      · rw [if_neg hk, if_neg (by rw [decide_eq_true_eq]; exact fun e => hk ((cmp_eq_zero _ _).1 e))]
        rfl
theorem cut1E_eq (key : Bytes) : ∀ {prs : List Pr}, RiseP prs → fndIs (prs.map prE) key = true → cut1E (prs.map prE) key = (cutP prs key).map prE
  | [], _, h => by simp [fndIs] at h
  | p :: r, hr, h => by
    obtain ⟨h1, h2⟩ := List.pairwise_cons.1 hr
    rw [List.map_cons] at h ⊢
    by_cases hc : cmp p.1 key < 0
    · have h' : cmp (prE p).key key < 0 := hc
      rw [fndIs_lt h'] at h
      have ih := cut1E_eq key h2 h
      have e1 : cutP (p :: r) key = p :: cutP r key := List.filter_cons_of_pos (by simpa using cmp_ne hc)
      rw [e1, List.map_cons, ← ih]
      unfold cut1E
      rw [fnd_cons, if_pos h', List.take_succ_cons, List.cons_append, List.drop_succ_cons]
    · have h' : ¬ cmp (prE p).key key < 0 := hc
      rw [fndIs_ge h', decide_eq_true_eq] at h
      have hk : p.1 = key := (cmp_eq_zero _ _).1 h
      unfold cut1E
      rw [fnd_cons, if_neg h', List.take_zero, List.nil_append]
      have e1 : cutP (p :: r) key = cutP r key := List.filter_cons_of_neg (by simpa using hk)
      have e2 : cutP r key = r := List.filter_eq_self.2 fun q hq => by
        have := h1 q hq
        rw [hk] at this
        simpa using (cmp_ne this).symm
      rw [e1, e2]
      rfl
theorem leaf_is {prs : List Pr} (hr : RiseP prs) (key : Bytes) : (lookP prs key).isSome = fndIs (prs.map prE) key := by
  obtain ⟨h1, h2⟩ := leaf_find (key := key) hr
  cases h : fndIs (prs.map prE) key with
  | true => obtain ⟨v, _, h3⟩ := h1 h; rw [h3]; rfl
  | false => rw [h2 h]; rfl
theorem size_putP (key val : Bytes) : ∀ prs : List Pr, nsize 0 ((putP prs key val).map prE) ≤ nsize 0 (prs.map prE) + (4 + key.length + val.length)
  | [] => by simp [putP, nsize, esize, prE]
  | p :: r => by
    have ih := size_putP key val r
    unfold putP
    split
    · rw [List.map_cons, List.map_cons, nsize_cons, nsize_cons]
      omega
    · have e : esize 0 (prE (key, val)) = 4 + key.length + val.length := rfl
      split
      · rw [List.map_cons, List.map_cons, nsize_cons, nsize_cons]
        omega
      · rw [List.map_cons, nsize_cons]
        omega
theorem size_cutP (key : Bytes) : ∀ prs : List Pr, nsize 0 ((cutP prs key).map prE) ≤ nsize 0 (prs.map prE)
  | [] => Nat.le_refl _
  | p :: r => by
    have ih := size_cutP key r
    rw [List.map_cons, nsize_cons]
    by_cases h : p.1 = key
    · rw [show cutP (p :: r) key = cutP r key from List.filter_cons_of_neg (by simpa using h)]
      omega
    · rw [show cutP (p :: r) key = p :: cutP r key from List.filter_cons_of_pos (by simpa using h), List.map_cons, nsize_cons]
      omega

/-- What is done: a pair put, or a key cut; where the key and the value lie. -/
inductive Ed where
  | put (key val : Bytes) (kb vb : Nat)
  | cut (key : Bytes) (kb : Nat)
namespace Ed
def v : Ed → Value
  | .put _ _ kb vb => .func (.func 67) #[] #[ptr kb, ptr vb]
  | .cut _ kb => .func (.func 65) #[] #[ptr kb]
def key : Ed → Bytes
  | .put key _ _ _ => key
  | .cut key _ => key
def f : Ed → List Pr → List Pr
  | .put key val _ _, l => putP l key val
  | .cut key _, l => cutP l key
def is : Ed → List Pr → Bool
  | .put _ _ _ _, _ => true
  | .cut key _, l => (lookP l key).isSome
/-- The key and the value lie in blocks that are none of S. -/
def At (w : World) (S : Nat → Prop) : Ed → Prop
  | .put key val kb vb => kb < w.heap.size ∧ ¬ S kb ∧ vb < w.heap.size ∧ ¬ S vb ∧ ∃ kv vv, w.cell? ⟨kb, 0, none⟩ = some kv ∧ w.cell? ⟨vb, 0, none⟩ = some vv ∧ Bsf w S kv key ∧ Bsf w S vv val
  | .cut key kb => kb < w.heap.size ∧ ¬ S kb ∧ ∃ kv, w.cell? ⟨kb, 0, none⟩ = some kv ∧ Bsf w S kv key
def Ok : Ed → Prop
  | .put key val _ _ => PrOk (key, val)
  | .cut _ _ => True
theorem At.step {ed : Ed} {w w' : World} {S S' : Nat → Prop} (h : ed.At w S) (hs : Step S w w' S') : ed.At w' S' := by
  have hsz := hs.size
  have hn : ∀ q, q < w.heap.size → ¬ S q → ¬ S' q := fun q h1 h2 h3 => (hs.more q h3).elim h2 fun h4 => by omega
  have hc : ∀ (q i : Nat), q < w.heap.size → ¬ S q → w'.cell? ⟨q, i, none⟩ = w.cell? ⟨q, i, none⟩ := fun q i h1 h2 => World.cell?_of_block (hs.only.block q h1 h2)
  cases ed with
  | put key val kb vb =>
    obtain ⟨h1, h2, h3, h4, kv, vv, h5, h6, h7, h8⟩ := h
    exact ⟨by omega, hn _ h1 h2, by omega, hn _ h3 h4, kv, vv, (hc _ _ h1 h2).trans h5, (hc _ _ h3 h4).trans h6, h7.step hs, h8.step hs⟩
  | cut key kb =>
    obtain ⟨h1, h2, kv, h5, h7⟩ := h
    exact ⟨by omega, hn _ h1 h2, kv, (hc _ _ h1 h2).trans h5, h7.step hs⟩
theorem f_mid (ed : Ed) {a x c : List Pr} (ha : ∀ p ∈ a, cmp p.1 ed.key < 0) (hc : ∀ p ∈ c, cmp ed.key p.1 < 0) : ed.f (a ++ x ++ c) = a ++ ed.f x ++ c := by
  cases ed with
  | put key val kb vb => exact putP_mid ha hc
  | cut key kb => exact cutP_mid ha hc
theorem is_mid (ed : Ed) {a x c : List Pr} (ha : ∀ p ∈ a, cmp p.1 ed.key < 0) (hc : ∀ p ∈ c, cmp ed.key p.1 < 0) : ed.is (a ++ x ++ c) = ed.is x := by
  cases ed with
  | put key val kb vb => rfl
  | cut key kb =>
    exact congrArg Option.isSome (lookP_mid (key := key) ha hc)
theorem rise (ed : Ed) {l : List Pr} (h : RiseP l) : RiseP (ed.f l) := by
  cases ed with
  | put key val kb vb => exact rise_putP h
  | cut key kb => exact rise_cutP h
theorem prok (ed : Ed) (ho : ed.Ok) {l : List Pr} (h : ∀ p ∈ l, PrOk p) : ∀ p ∈ ed.f l, PrOk p := by
  cases ed with
  | put key val kb vb =>
    intro p hp
    rcases mem_putP hp with rfl | hp
    · exact ho
    · exact h p hp
  | cut key kb => exact fun p hp => h p (List.mem_filter.1 hp).1
end Ed
end Go.Proofs.YtgekeemhbnhelaaGreat
namespace Go.Proofs.YtgekeemhbnhelaaGreat
open Go.RowKit

/-- The pages that a node has itself. -/
def ownP (pg : Int) : List Nat := if pg = -1 then [] else [pg.toNat]
theorem leaves_own (pg : Int) (T : List Nat) (BL : List Bytes) (X : List Nat) : leaves pg ⟨T, BL, X⟩ = ⟨T, BL, X ++ ownP pg⟩ := by
  unfold leaves ownP
  split <;> simp
theorem ownP_len (pg : Int) : (ownP pg).length ≤ 1 := by
  unfold ownP
  split <;> simp
theorem ownP_nat (k : Nat) : ownP (k : Int) = [k] := by
  unfold ownP
  rw [if_neg (by omega), Int.toNat_natCast]

/-- What redo is handed. -/
structure RedoH (w : World) (tb db pb fr : Nat) (D : Dv) (ps : List Pg) (wb : Nat) (top : Nd) (P X0 : List Nat) (S F G : Nat → Prop) (tev ttv tv bv xv : Value) (lvl : Nat) (pg : Int) (nev ntv kv : Value) (es : List En) (nto : Bytes) (prs : List Pr) (pgs : List Nat) (ed : Ed) : Prop where
  st : StAt w tb db pb fr D ps wb top ⟨[], [], X0⟩ S F G tev ttv tv bv xv
  on : D.on = true
  top_ : TopOk (blkOf D fr) ps.length top P
  free : ∀ n, ps[n]? = some (false, false) → n ∉ P
  pg1 : -1 ≤ pg
  in_ : ∀ q ∈ ownP pg ++ pgs, q ∈ P
  rd : Rd kdEn w S nev es
  rt : Bsf w S ntv nto
  key : Bsf w S kv ed.key
  nb : Nb (blkOf D fr) ps.length lvl es prs pgs
  ok : lvl = 0 ∧ es = [] ∨ NdOk ps.length lvl es
  rise : RiseP prs
  und : Under prs nto
  few : lvl ≤ 4096
  x : X0.length + 2 * lvl ≤ 100000
  at_ : ed.At w S
  edok : ed.Ok
/-- What redo answers and leaves. -/
def Redoes (w0 : World) (tb db pb fr : Nat) (D : Dv) (ps : List Pg) (wb : Nat) (top : Nd) (X0 : List Nat) (S0 F G : Nat → Prop) (tev ttv : Value) (lvl : Nat) (own : List Nat) (prs : List Pr) (pgs : List Nat) (ed : Ed) (e : Ending) (w' : World) : Prop :=
  ∃ (i : Nat) (Xs : List Nat) (BL : List Bytes) (S' : Nat → Prop) (tv bv xv : Value), StAt w' tb db pb fr D (tdones i ps) wb top ⟨placeT ps i, BL, X0 ++ Xs⟩ S' F G tev ttv tv bv xv ∧ Step S0 w0 w' S' ∧ (∀ q, S0 q → S' q) ∧
    (∀ j, j < i → leastFree (tdones j ps) ≠ none) ∧ i ≤ 2 * lvl ∧ Xs.length ≤ 2 * lvl + 1 ∧ BL.length = i ∧ (∀ b ∈ BL, b.length = 512) ∧
    ((ed.is prs = false ∧ i = 0 ∧ ∃ a c, e = .returned (.tuple #[.slice a 0 c, .bool false, err 0])) ∨
     (ed.is prs = true ∧ leastFree (tdones i ps) = none ∧ e = .returned (.tuple #[.slice none 0 0, .bool false, err 7])) ∨
     (ed.is prs = true ∧ ∃ v Ls pgs', e = .returned (.tuple #[v, .bool true, err 0]) ∧ Rd kdNd w' S' v (Ls.map (mkN lvl)) ∧ Redone (ovr (blkOf D fr) ((placeT ps i).zip BL)) ps.length lvl Ls (ed.f prs) pgs' ∧ (own ++ pgs ++ placeT ps i).Perm (Xs ++ pgs')))

section
variable {w : World} {tb db pb fr : Nat} {D : Dv} {ps : List Pg} {wb : Nat} {top : Nd} {P X0 : List Nat} {S F G : Nat → Prop} {tev ttv tv bv xv : Value} {lvl : Nat} {pg : Int} {nev ntv kv : Value} {es : List En} {nto : Bytes} {prs : List Pr} {pgs : List Nat} {ed : Ed}
theorem RedoH.prok (h : RedoH w tb db pb fr D ps wb top P X0 S F G tev ttv tv bv xv lvl pg nev ntv kv es nto prs pgs ed) : ∀ p ∈ prs, PrOk p := by
  refine h.nb.prs_ok fun e he => ?_
  rcases h.ok with h1 | h1
  · rw [h1.2] at he
    cases he
  · exact h1.1.2.2.2 e he
theorem RedoH.pos (h : RedoH w tb db pb fr D ps wb top P X0 S F G tev ttv tv bv xv lvl pg nev ntv kv es nto prs pgs ed) : 0 < ps.length ∧ ps.length ≤ 4096 := ⟨h.st.tr.pgs.pos, h.st.tr.pgs.few⟩
theorem RedoH.size (h : RedoH w tb db pb fr D ps wb top P X0 S F G tev ttv tv bv xv lvl pg nev ntv kv es nto prs pgs ed) : nsize lvl es ≤ 503 := by
  rcases h.ok with h1 | h1
  · rw [h1.2, nsize_nil]; omega
  · exact h1.1.2.1

set_option maxRecDepth 100000 in
set_option maxHeartbeats 2000000 in
theorem redo_leaf (h : RedoH w tb db pb fr D ps wb top P X0 S F G tev ttv tv bv xv 0 pg nev ntv kv es nto prs pgs ed) :
    Calls Tryz.prog 91 #[ptr wb, ndv pg ((0 : Nat) : Int) nev ntv, kv, ed.v] w (Redoes w tb db pb fr D ps wb top X0 S F G tev ttv 0 (ownP pg) prs pgs ed) := by
  obtain ⟨ea, ec, rfl, _⟩ := h.rd.shape
  obtain ⟨ta, tc, rfl, _⟩ := h.rt.1.shape
  obtain ⟨hes, hpg0⟩ := Nb.zero.1 h.nb
  have hb1 : Below w.heap.size w (w.alloc (.cells #[.int .i64 pg, .int .i64 0, .slice ea es.length ec, .slice ta nto.length tc] 85)) := (Below.refl _ _).alloc (Nat.le_refl _) _
  have C1 : Cel (w.alloc (.cells #[.int .i64 pg, .int .i64 0, .slice ea es.length ec, .slice ta nto.length tc] 85)) w.heap.size [.int .i64 pg, .int .i64 0, .slice ea es.length ec, .slice ta nto.length tc] 85 := Cel.new w _ _
  have q0 := C1.cell 0
  have q1 := C1.cell 1
  have q2 := C1.cell 2
  have q3 := C1.cell 3
  have L := leave_any (lv := 0) (ev := .slice ea es.length ec) (tv0 := .slice ta nto.length tc) (p := pg) (h.st.below hb1) h.pg1 (by show X0.length ≤ _; have := h.x; omega)
  rw [leaves_own] at L
  have hlen : es.length ≤ 1000000 := by have := h.size; have := length_le_nsize 0 es; omega
  have hprok := h.prok
  obtain ⟨hpos, hN⟩ := h.pos
  obtain ⟨en, hen⟩ : ∃ en, en = es.length := ⟨_, rfl⟩
  rw [← hen] at q2 L C1 hb1
  rw [← hen]
  have HH := Lib.hid (And.intro h (And.intro hb1 (And.intro C1 (And.intro hlen (And.intro hprok (And.intro hpos (And.intro hN (And.intro hes (And.intro hpg0 hen)))))))))
  clear h hb1 C1 hlen hprok hpos hN hes hpg0 hen
  cases ed with
  | put key val kb vb =>
    simp only [Ed.v]
    go_enter Tryz.func91, Tryz.ntmps91
    go_wp2_with fail
    refine L.mono ?_
    rintro e w2 ⟨rfl, S2, xv2, h2, st2, in2, xn2, sm2⟩
    clear L
    have C2 := HH.out.2.2.1.kept (sm2 w.heap.size HH.out.2.2.1.lt (fun e => by have := HH.out.1.st.cel.lt; omega) (fun e => by have := HH.out.1.st.rx.own (q := w.heap.size) e; omega))
    have q0 := C2.cell 0
    have q1 := C2.cell 1
    have q2 := C2.cell 2
    have q3 := C2.cell 3
    have hst := (Step.of_below HH.out.2.1 S).trans st2
    have hat := HH.out.1.at_.step hst
    obtain ⟨hk1, hk2, hv1, hv2, kv', vv', hkc, hvc, hkb, hvb⟩ := hat
    have hrd := HH.out.1.rd.step hst
    have hre := HH.out.1.nb.rise HH.out.1.rise
    have A := put1_any (p := pg) (l := 0) (tv := .slice ta nto.length tc) w2 hrd hre HH.out.2.2.2.1 hkc hk1 hkb hvc hv1 hvb h2.tr.lt
    rw [← HH.out.2.2.2.2.2.2.2.2.2] at A
    have H2 := Lib.hid (And.intro h2 (And.intro hst (And.intro in2 C2)))
    clear h2 st2 in2 xn2 sm2 C2 hst hk1 hk2 hv1 hv2 hkc hvc hkb hvb hrd hre
    go_wp2_with fail
    refine A.mono ?_
    rintro e w3 ⟨v, rfl, hrv, hb3⟩
    clear A
    rw [HH.out.2.2.2.2.2.2.2.1, put1E_eq] at hrv
    have C3 := H2.out.2.2.2.below hb3 H2.out.2.2.2.lt
    have q0 := C3.cell 0
    have q1 := C3.cell 1
    have q2 := C3.cell 2
    have q3 := C3.cell 3
    have hpk := (Ed.put key val kb vb).prok HH.out.1.edok HH.out.2.2.2.2.1
    have hri := (Ed.put key val kb vb).rise HH.out.1.rise
    have hsz := size_putP key val prs
    have hnb : Nb (blkOf D fr) ps.length 0 ((putP prs key val).map prE) (putP prs key val) [] := Nb.zero.2 ⟨rfl, rfl⟩
    have hek := hnb.eok HH.out.2.2.2.2.2.2.1 HH.out.2.2.2.2.2.1 hpk
    have hok : PrOk (key, val) := HH.out.1.edok
    have hz0 := HH.out.1.size
    rw [HH.out.2.2.2.2.2.2.2.1] at hz0
    have hs2 : nsize 0 ((putP prs key val).map prE) ≤ 681 := by
      have h1 : key.length ≤ 32 := hok.1.2
      have h2 : val.length ≤ 128 := hok.2
      omega
    have hl2 : ((putP prs key val).map prE).length ≤ 1000000 := by
      have := length_le_nsize 0 ((putP prs key val).map prE)
      omega
    have H := halved_any (lvl := 0) w3 hrv (EOk.few hek) hl2 (fun q hq => Nat.lt_of_lt_of_le (H2.out.1.tr.lt q hq) hb3.size)
    obtain ⟨va, vc, rfl, _⟩ := hrv.shape
    obtain ⟨ln, hln⟩ : ∃ ln, ln = ((putP prs key val).map prE).length := ⟨_, rfl⟩
    rw [← hln] at H
    rw [← hln]
    clear hln
    have H3 := Lib.hid (And.intro hb3 (And.intro hpk (And.intro hri hs2)))
    clear hrv C3 hb3 hpk hri hsz hnb hek hok hz0 hs2 hl2
    go_wp2_with fail
    refine H.mono ?_
    rintro e w4 ⟨lv, Ls, rfl, hh, hr4, hb4⟩
    clear H
    have hb24 := H3.out.1.trans (hb4.mono H3.out.1.size)
    have H4 := Lib.hid (And.intro hh (And.intro hr4 hb24))
    clear hh hr4 hb4 hb24
    obtain ⟨la, lc, rfl, _⟩ := H4.out.2.1.shape
    go_wp2
    go_ret3
    obtain ⟨h2, hst, in2, _⟩ := H2.out
    obtain ⟨hb3, hpk, hri, hs2⟩ := H3.out
    obtain ⟨hh, hr4, hb24⟩ := H4.out
    rw [List.length_map] at hr4
    refine ⟨0, ownP pg, [], S2, tv, bv, xv2, h2.below hb24, hst.bel hb24, in2, (fun j hj => absurd hj (Nat.not_lt_zero j)), Nat.zero_le _, (by have := ownP_len pg; omega), rfl, (fun b hb => by cases hb), .inr (.inr ⟨rfl, _, Ls, [], rfl, hr4, ?_, ?_⟩)⟩
    · exact redone_leaf HH.out.2.2.2.2.2.2.1 HH.out.2.2.2.2.2.1 hpk hri hs2 hh
    · rw [HH.out.2.2.2.2.2.2.2.2.1]
      show (ownP pg ++ [] ++ []).Perm (ownP pg ++ [])
      rw [List.append_nil]
  | cut key kb =>
    simp only [Ed.v]
    go_enter Tryz.func91, Tryz.ntmps91
    go_wp2_with fail
    refine L.mono ?_
    rintro e w2 ⟨rfl, S2, xv2, h2, st2, in2, xn2, sm2⟩
    clear L
    have C2 := HH.out.2.2.1.kept (sm2 w.heap.size HH.out.2.2.1.lt (fun e => by have := HH.out.1.st.cel.lt; omega) (fun e => by have := HH.out.1.st.rx.own (q := w.heap.size) e; omega))
    have q0 := C2.cell 0
    have q1 := C2.cell 1
    have q2 := C2.cell 2
    have q3 := C2.cell 3
    have hst := (Step.of_below HH.out.2.1 S).trans st2
    have hat := HH.out.1.at_.step hst
    obtain ⟨hk1, hk2, kv', hkc, hkb⟩ := hat
    have hrd := HH.out.1.rd.step hst
    have hre := HH.out.1.nb.rise HH.out.1.rise
    have A := cut1_any (p := pg) (l := 0) (tv := .slice ta nto.length tc) w2 hrd hre HH.out.2.2.2.1 hkc hk1 hkb.1 h2.tr.lt
    rw [← HH.out.2.2.2.2.2.2.2.2.2] at A
    have H2 := Lib.hid (And.intro h2 (And.intro hst (And.intro in2 C2)))
    clear h2 st2 in2 xn2 sm2 C2 hst hk1 hk2 hkc hkb hrd hre
    go_wp2_with fail
    refine A.mono ?_
    rintro e w3 (⟨hfi, rfl, hb3⟩ | ⟨hfi, v, rfl, hrv, hb3⟩)
    · clear A
      have H3 := Lib.hid hb3
      clear hb3
      have C3 := H2.out.2.2.2.below H3.out H2.out.2.2.2.lt
      have q0 := C3.cell 0
      have q1 := C3.cell 1
      have q2 := C3.cell 2
      have q3 := C3.cell 3
      have H := halved_any (lvl := 0) (es := []) w3 (Rd.nil kdEn w3 S2) (fun e he => by cases he) (by simp) (fun q hq => Nat.lt_of_lt_of_le (H2.out.1.tr.lt q hq) H3.out.size)
      clear C3
      have his : (Ed.cut key kb).is prs = false := by
        show (lookP prs key).isSome = false
        rw [leaf_is HH.out.1.rise, ← HH.out.2.2.2.2.2.2.2.1]
        exact hfi
      have HI := Lib.hid his
      clear his hfi
      go_wp2_with fail
      refine H.mono ?_
      rintro e w4 ⟨lv, Ls, rfl, hh, hr4, hb4⟩
      clear H
      have hb24 := H3.out.trans (hb4.mono H3.out.size)
      have hL : Ls = [] := by
        rcases hh with h | h | h
        · exact h.2
        · exact absurd rfl h.1
        · have := h.1; simp [nsize] at this
      subst hL
      have H4 := Lib.hid hb24
      obtain ⟨la, lc, rfl, _⟩ := hr4.shape
      clear hh hr4 hb4 hb24
      go_wp2
      go_ret3
      obtain ⟨h2, hst, in2, _⟩ := H2.out
      refine ⟨0, ownP pg, [], S2, tv, bv, xv2, h2.below H4.out, hst.bel H4.out, in2, (fun j hj => absurd hj (Nat.not_lt_zero j)), Nat.zero_le _, (by have := ownP_len pg; omega), rfl, (fun b hb => by cases hb), .inl ⟨HI.out, rfl, la, lc, rfl⟩⟩
    · clear A
      have his : (Ed.cut key kb).is prs = true := by
        show (lookP prs key).isSome = true
        rw [leaf_is HH.out.1.rise, ← HH.out.2.2.2.2.2.2.2.1]
        exact hfi
      have HI := Lib.hid (And.intro his hfi)
      clear his
      rw [HH.out.2.2.2.2.2.2.2.1, cut1E_eq key HH.out.1.rise (HH.out.2.2.2.2.2.2.2.1 ▸ hfi)] at hrv
      clear hfi
      have C3 := H2.out.2.2.2.below hb3 H2.out.2.2.2.lt
      have q0 := C3.cell 0
      have q1 := C3.cell 1
      have q2 := C3.cell 2
      have q3 := C3.cell 3
      have hpk := (Ed.cut key kb).prok HH.out.1.edok HH.out.2.2.2.2.1
      have hri := (Ed.cut key kb).rise HH.out.1.rise
      have hsz := size_cutP key prs
      have hnb : Nb (blkOf D fr) ps.length 0 ((cutP prs key).map prE) (cutP prs key) [] := Nb.zero.2 ⟨rfl, rfl⟩
      have hek := hnb.eok HH.out.2.2.2.2.2.2.1 HH.out.2.2.2.2.2.1 hpk
      have hz0 := HH.out.1.size
      rw [HH.out.2.2.2.2.2.2.2.1] at hz0
      have hs2 : nsize 0 ((cutP prs key).map prE) ≤ 681 := by omega
      have hl2 : ((cutP prs key).map prE).length ≤ 1000000 := by
        have := length_le_nsize 0 ((cutP prs key).map prE)
        omega
      have H := halved_any (lvl := 0) w3 hrv (EOk.few hek) hl2 (fun q hq => Nat.lt_of_lt_of_le (H2.out.1.tr.lt q hq) hb3.size)
      obtain ⟨va, vc, rfl, _⟩ := hrv.shape
      obtain ⟨ln, hln⟩ : ∃ ln, ln = ((cutP prs key).map prE).length := ⟨_, rfl⟩
      rw [← hln] at H
      rw [← hln]
      clear hln
      have H3 := Lib.hid (And.intro hb3 (And.intro hpk (And.intro hri hs2)))
      clear hrv C3 hb3 hpk hri hsz hnb hek hz0 hs2 hl2
      go_wp2_with fail
      refine H.mono ?_
      rintro e w4 ⟨lv, Ls, rfl, hh, hr4, hb4⟩
      clear H
      have hb24 := H3.out.1.trans (hb4.mono H3.out.1.size)
      have H4 := Lib.hid (And.intro hh (And.intro hr4 hb24))
      clear hh hr4 hb4 hb24
      obtain ⟨la, lc, rfl, _⟩ := H4.out.2.1.shape
      go_wp2
      go_ret3
      obtain ⟨h2, hst, in2, _⟩ := H2.out
      obtain ⟨hb3, hpk, hri, hs2⟩ := H3.out
      obtain ⟨hh, hr4, hb24⟩ := H4.out
      rw [List.length_map] at hr4
      refine ⟨0, ownP pg, [], S2, tv, bv, xv2, h2.below hb24, hst.bel hb24, in2, (fun j hj => absurd hj (Nat.not_lt_zero j)), Nat.zero_le _, (by have := ownP_len pg; omega), rfl, (fun b hb => by cases hb), .inr (.inr ⟨HI.out.1, _, Ls, [], rfl, hr4, ?_, ?_⟩)⟩
      · exact redone_leaf HH.out.2.2.2.2.2.2.1 HH.out.2.2.2.2.2.1 hpk hri hs2 hh
      · rw [HH.out.2.2.2.2.2.2.2.2.1]
        show (ownP pg ++ [] ++ []).Perm (ownP pg ++ [])
        rw [List.append_nil]
end
end Go.Proofs.YtgekeemhbnhelaaGreat
namespace Go.Proofs.YtgekeemhbnhelaaGreat
open Go.RowKit

theorem placeB_512 {N lvl : Nat} {Ls : List (List En)} (h : ∀ L ∈ Ls, NdOk N lvl L) (i : Nat) : ∀ b ∈ placeB (Ls.map (mkN lvl)) i, b.length = 512 := by
  intro b hb
  obtain ⟨n, hn, rfl⟩ := List.mem_map.1 hb
  obtain ⟨L, hL, rfl⟩ := List.mem_map.1 (List.mem_of_mem_take hn)
  have h1 : nsize lvl L ≤ 503 := (h L hL).1.2.1
  have h2 : (bodyL lvl L).length ≤ 505 := by rw [bodyL_length]; omega
  show (sealL 3 (bodyL lvl L)).length = 512
  exact sealL_length h2

theorem tdone_free {l : List Pg} {n : Nat} (h : (tdone l)[n]? = some (false, false)) : l[n]? = some (false, false) := by
  rw [tdone_get] at h
  split at h
  · cases h
  · exact h
theorem tdones_free {l : List Pg} {n : Nat} : ∀ {j : Nat}, (tdones j l)[n]? = some (false, false) → l[n]? = some (false, false)
  | 0, h => h
  | _ + 1, h => tdones_free (tdone_free h)
theorem least_free {l : List Pg} {i j n : Nat} (h : leastFree (tdones j (tdones i l)) = some n) : l[n]? = some (false, false) := by
  obtain ⟨x, hx, h0, _⟩ := least_some h
  rw [pnum_free.1 h0] at hx
  exact tdones_free (tdones_free hx)
theorem free_add {l : List Pg} {i1 i2 : Nat} (h1 : ∀ j, j < i1 → leastFree (tdones j l) ≠ none) (h2 : ∀ j, j < i2 → leastFree (tdones j (tdones i1 l)) ≠ none) : ∀ j, j < i1 + i2 → leastFree (tdones j l) ≠ none := fun j hj => by
  rcases Nat.lt_or_ge j i1 with h | h
  · exact h1 j h
  · have := h2 (j - i1) (by omega)
    rw [tdones_add, show i1 + (j - i1) = j by omega] at this
    exact this
theorem placeE_few {l : List Pg} {ns : List Nd} {i : Nat} (h : ∀ n ∈ ns, ∀ e ∈ n.ents, e.key.length ≤ 65535) : Few (placeE l ns i) := fun e he => by
  obtain ⟨j, _, rfl⟩ := List.mem_map.1 he
  refine ⟨?_, Nat.zero_le _⟩
  show (((ns[j]?).map hkey).getD []).length ≤ 65535
  rcases hn : ns[j]? with _ | n
  · exact Nat.zero_le _
  · show (hkey n).length ≤ 65535
    unfold hkey
    rcases he : n.ents[0]? with _ | e
    · exact Nat.zero_le _
    · exact h n (List.mem_of_getElem? hn) e (List.mem_of_getElem? he)

/-- Nodes in the place of some children, over blocks B1, behind T1 that were taken and X that were left. -/
structure Gr (B1 : Nat → Bytes) (N m : Nat) (kids K1 mid K2 : List Sb) (Gs : List (List En)) (pM : List Pr) (gM T1 X : List Nat) (prs' : List Pr) (f b : Nat) : Prop where
  parts : kids = K1 ++ mid ++ K2
  ok : ∀ L ∈ Gs, NdOk N m L
  nb : Nb B1 N m Gs.flatten pM gM
  few : Gs.length ≤ 2
  prs : prs' = K1.flatMap Sb.prs ++ pM ++ K2.flatMap Sb.prs
  perm : (mid.flatMap Sb.pgs ++ T1).Perm (X ++ gM)
  some_ : K1 ++ K2 ≠ [] ∨ Gs ≠ []
  first : K1.length = f
  behind : K1.length + mid.length = b

section
variable {B B1 : Nat → Bytes} {N m : Nat} {kids : List Sb} {kd : Sb} {i : Nat} {Ls : List (List En)} {T1 X pgs1 : List Nat} {ed : Ed} {prs : List Pr}

theorem split_at {α : Type} {l : List α} {i : Nat} {a : α} (h : l[i]? = some a) : l = l.take i ++ [a] ++ l.drop (i + 1) ∧ (l.take i).length = i := by
  obtain ⟨hi, e⟩ := List.getElem?_eq_some_iff.1 h
  refine ⟨?_, by simp; omega⟩
  rw [List.append_assoc, List.singleton_append, ← e, ← List.drop_eq_getElem_cons hi, List.take_append_drop]
theorem split_two {α : Type} {l : List α} {i : Nat} {a b : α} (h : l[i]? = some a) (h2 : l[i + 1]? = some b) : l = l.take i ++ [a, b] ++ l.drop (i + 2) ∧ (l.take i).length = i := by
  obtain ⟨hi, e⟩ := List.getElem?_eq_some_iff.1 h
  obtain ⟨hi2, e2⟩ := List.getElem?_eq_some_iff.1 h2
  refine ⟨?_, by simp; omega⟩
  rw [List.append_assoc, List.cons_append, List.singleton_append, ← e2, ← List.drop_eq_getElem_cons hi2, ← e, ← List.drop_eq_getElem_cons hi, List.take_append_drop]

/-- Alone. -/
theorem gr_same (hk : kids[i]? = some kd) (hn2 : 2 ≤ kids.length) (hok : ∀ L ∈ Ls, NdOk N m L) (hr : Redone B1 N m Ls (ed.f kd.prs) pgs1) (hp : (kd.pgs ++ T1).Perm (X ++ pgs1))
    (ha : ∀ p ∈ (kids.take i).flatMap Sb.prs, cmp p.1 ed.key < 0) (hc : ∀ p ∈ (kids.drop (i + 1)).flatMap Sb.prs, cmp ed.key p.1 < 0) (hprs : prs = kids.flatMap Sb.prs) :
    Gr B1 N m kids (kids.take i) [kd] (kids.drop (i + 1)) Ls (ed.f kd.prs) pgs1 T1 X (ed.f prs) i (i + 1) := by
  obtain ⟨e1, e2⟩ := split_at hk
  refine ⟨e1, hok, hr.nb, hr.few, ?_, by simpa using hp, .inl ?_, e2, by rw [e2]; rfl⟩
  · rw [hprs]
    conv => lhs; rw [e1]
    rw [List.flatMap_append, List.flatMap_append, List.flatMap_cons, List.flatMap_nil, List.append_nil]
    exact ed.f_mid ha hc
  · intro h
    have e := congrArg List.length h
    have hi := (List.getElem?_eq_some_iff.1 hk).1
    rw [List.length_append, e2, List.length_drop, List.length_nil] at e
    omega
/-- What is joined goes into nodes that stand. -/
theorem joined_ok {a b : List En} {L2 : List (List En)} {p1 p2 : List Pr} {g1 g2 : List Nat} (hN : N ≤ 4096) (hN0 : 0 < N) (hh : Halved m (a ++ b) L2) (na : Nb B1 N m a p1 g1) (nb : Nb B1 N m b p2 g2) (hp : ∀ p ∈ p1 ++ p2, PrOk p) (hr : RiseP (p1 ++ p2))
    (hlen : 0 < m → 2 ≤ (a ++ b).length) (hs : nsize m (a ++ b) ≤ 681) (hne : a ++ b ≠ []) : (∀ L ∈ L2, NdOk N m L) ∧ Nb B1 N m L2.flatten (p1 ++ p2) (g1 ++ g2) ∧ L2.length ≤ 2 ∧ L2 ≠ [] := by
  have hn := na.append nb
  obtain ⟨h1, h2, h3⟩ := hh.flat
  obtain ⟨h4, h5⟩ := hh.ok (hn.rise hr) (hn.eok hN hN0 hp) hs
  refine ⟨fun L hL => ?_, by rw [h1]; exact hn, h2, h3 hne⟩
  rcases hh with ⟨h6, rfl⟩ | ⟨h6, h7, rfl⟩ | ⟨_, k, _, _, rfl, _⟩
  · cases hL
  · rw [List.mem_singleton] at hL
    subst hL
    exact ⟨h4 _ (List.mem_singleton.2 rfl), hlen⟩
  · exact h5 rfl L hL
/-- Joined with a neighbour. -/
theorem gr_join {own cj : List En} {L2 : List (List En)} {j : Nat} {kj : Sb} {cpj : List Nat} (hN : N ≤ 4096) (hN0 : 0 < N) (hk : kids[i]? = some kd) (hj : kids[j]? = some kj) (hji : j + 1 = i ∨ j = i + 1)
    (hr : Redone B1 N m [own] (ed.f kd.prs) pgs1) (hp : (kd.pgs ++ T1).Perm (X ++ pgs1)) (hcj : NdOk N m cj) (hnj : Nb B1 N m cj kj.prs cpj) (hpj : kj.pgs = kj.page :: cpj)
    (ha : ∀ p ∈ (kids.take i).flatMap Sb.prs, cmp p.1 ed.key < 0) (hc : ∀ p ∈ (kids.drop (i + 1)).flatMap Sb.prs, cmp ed.key p.1 < 0) (hprs : prs = kids.flatMap Sb.prs) (hrise : RiseP (ed.f prs)) (hok : ∀ p ∈ ed.f prs, PrOk p)
    (hjo : joinOk (mkN m own) m cj = true) (hh : Halved m (withE (j : Int) (i : Int) own cj) L2) :
    ∃ K1 mid K2 pM gM, Gr B1 N m kids K1 mid K2 L2 pM gM T1 (X ++ [kj.page]) (ed.f prs) (if j < i then j else i) (if j < i then i + 1 else j + 1) := by
  have hown := hr.ok own (List.mem_singleton.2 rfl)
  have hnb := hr.nb
  rw [List.flatten_singleton] at hnb
  have hs : nsize m own + nsize m cj ≤ 681 := by
    have h1 := hcj.1.2.1
    have h2 := hown.2.1
    unfold joinOk at hjo
    rcases Bool.or_eq_true_iff.1 hjo with h | h
    · unfold loneB at h
      have h0 : 0 < m := of_decide_eq_true (Bool.and_eq_true_iff.1 h).1
      have h3 : own.length < 2 := of_decide_eq_true (Bool.and_eq_true_iff.1 h).2
      have h4 := nsize_max hown.2.2.2
      have h5 : maxE m = 38 := by unfold maxE; rw [if_neg (by omega)]
      rw [h5] at h4
      omega
    · have h3 : nsize m own + nsize m cj ≤ 503 := of_decide_eq_true h
      omega
  have hl2 : 0 < m → 2 ≤ cj.length := hcj.2
  have hall : ed.f prs = (kids.take i).flatMap Sb.prs ++ ed.f kd.prs ++ (kids.drop (i + 1)).flatMap Sb.prs := by
    rw [hprs]
    conv => lhs; rw [(split_at hk).1]
    rw [List.flatMap_append, List.flatMap_append, List.flatMap_cons, List.flatMap_nil, List.append_nil]
    exact ed.f_mid ha hc
  rcases hji with hji | hji
  · have hlt : j < i := by omega
    have hk' : kids[j + 1]? = some kd := by rw [hji]; exact hk
    obtain ⟨e1, e2⟩ := split_two hj hk'
    have et : kids.take i = kids.take j ++ [kj] := by rw [← hji, List.take_add_one, hj]; rfl
    have ed2 : j + 2 = i + 1 := by omega
    rw [ed2] at e1
    have hf : ed.f prs = (kids.take j).flatMap Sb.prs ++ (kj.prs ++ ed.f kd.prs) ++ (kids.drop (i + 1)).flatMap Sb.prs := by
      rw [hall, et]
      simp
    have hw : withE (j : Int) (i : Int) own cj = cj ++ own := by unfold withE; rw [if_pos (by omega)]
    rw [hw] at hh
    rw [hf] at hrise hok
    obtain ⟨g1, g2, g3, g4⟩ := joined_ok hN hN0 hh hnj hnb (fun p hp => hok p (by simp only [List.mem_append] at hp ⊢; exact .inl (.inr hp))) (RiseP.append.1 (RiseP.append.1 hrise).1).2.1 (fun h => by rw [List.length_append]; have := hl2 h; omega) (by rw [nsize_append]; omega) (by simp [hcj.1.1])
    refine ⟨kids.take j, [kj, kd], kids.drop (i + 1), kj.prs ++ ed.f kd.prs, cpj ++ pgs1, e1, g1, g2, g3, hf, ?_, .inr g4, ?_, ?_⟩
    · rw [List.flatMap_cons, List.flatMap_cons, List.flatMap_nil, hpj]
      refine List.perm_iff_count.2 fun x => ?_
      have := List.perm_iff_count.1 hp x
      simp only [List.count_append, List.count_cons, List.count_nil, List.append_nil] at this ⊢
      omega
    · rw [if_pos hlt]
      exact e2
    · rw [if_pos hlt, e2]
      simp only [List.length_cons, List.length_nil]
      omega
  · have hlt : ¬ j < i := by omega
    have hj' : kids[i + 1]? = some kj := by rw [← hji]; exact hj
    obtain ⟨e1, e2⟩ := split_two hk hj'
    have et : kids.drop (i + 1) = kj :: kids.drop (i + 2) := by
      obtain ⟨h1, h2⟩ := List.getElem?_eq_some_iff.1 hj'
      rw [List.drop_eq_getElem_cons h1, h2]
    have hf : ed.f prs = (kids.take i).flatMap Sb.prs ++ (ed.f kd.prs ++ kj.prs) ++ (kids.drop (i + 2)).flatMap Sb.prs := by
      rw [hall, et]
      simp
    have hw : withE (j : Int) (i : Int) own cj = own ++ cj := by unfold withE; rw [if_neg (by omega)]
    rw [hw] at hh
    rw [hf] at hrise hok
    obtain ⟨g1, g2, g3, g4⟩ := joined_ok hN hN0 hh hnb hnj (fun p hp => hok p (by simp only [List.mem_append] at hp ⊢; exact .inl (.inr hp))) (RiseP.append.1 (RiseP.append.1 hrise).1).2.1 (fun h => by rw [List.length_append]; have := hl2 h; omega) (by rw [nsize_append]; omega) (by simp [hcj.1.1])
    refine ⟨kids.take i, [kd, kj], kids.drop (i + 2), ed.f kd.prs ++ kj.prs, pgs1 ++ cpj, e1, g1, g2, g3, hf, ?_, .inr g4, ?_, ?_⟩
    · rw [List.flatMap_cons, List.flatMap_cons, List.flatMap_nil, hpj]
      refine List.perm_iff_count.2 fun x => ?_
      have := List.perm_iff_count.1 hp x
      simp only [List.count_append, List.count_cons, List.count_nil, List.append_nil] at this ⊢
      omega
    · rw [if_neg hlt]
      exact e2
    · rw [if_neg hlt, e2]
      simp only [List.length_cons, List.length_nil]
      omega
/-- One that is not joined can stand alone. -/
theorem alone_ok {x : List En} {cs : Nat → List En} (hr : Redone B1 N m [x] (ed.f kd.prs) pgs1) (hk : kids[i]? = some kd) (hn2 : 2 ≤ kids.length) (hno : ∀ q, q < 2 → NoJ (mkN m x) m cs (kids.map kidE) i q) : ∀ L ∈ [x], NdOk N m L := by
  intro L hL
  have hok := hr.ok L hL
  rw [List.mem_singleton] at hL
  subst hL
  refine ⟨hok, fun h0 => ?_⟩
  have hi := (List.getElem?_eq_some_iff.1 hk).1
  have hlone : loneB m L.length = false := by
    rcases Nat.eq_zero_or_pos i with h | h
    · have h1 := hno 1 (by omega) (i + 1) (kidE kids[i + 1]) (by unfold jOf; rw [if_neg (by omega)]; omega) (by rw [List.getElem?_map, List.getElem?_eq_getElem (by omega)]; rfl)
      unfold joinOk at h1
      exact (Bool.or_eq_false_iff.1 h1).1
    · have h1 := hno 0 (by omega) (i - 1) (kidE kids[i - 1]) (by unfold jOf; rw [if_pos rfl]; omega) (by rw [List.getElem?_map, List.getElem?_eq_getElem (by omega)]; rfl)
      unfold joinOk at h1
      exact (Bool.or_eq_false_iff.1 h1).1
  unfold loneB at hlone
  rcases Bool.and_eq_false_iff.1 hlone with h | h
  · exact absurd h0 (of_decide_eq_false h)
  · have := of_decide_eq_false h
    omega
/-- .. nor does one that has not become less. -/
theorem dw_ok {ces : List En} (hr : Redone B1 N m Ls (ed.f kd.prs) pgs1) (hd : dwB (Ls.map (mkN m)) m ces = false) : ∀ L ∈ Ls, NdOk N m L := by
  have hf := hr.few
  rcases Ls with _ | ⟨x, _ | ⟨y, _ | ⟨z, r⟩⟩⟩
  · intro L hL
    cases hL
  · intro L hL
    have hok := hr.ok L hL
    rw [List.mem_singleton] at hL
    subst hL
    refine ⟨hok, fun h0 => ?_⟩
    have h1 : loneB m L.length = false := (Bool.or_eq_false_iff.1 (show (loneB m L.length || decide (nsize m L < nsize m ces)) = false from hd)).1
    unfold loneB at h1
    rcases Bool.and_eq_false_iff.1 h1 with h | h
    · exact absurd h0 (of_decide_eq_false h)
    · have := of_decide_eq_false h
      omega
  · exact hr.two rfl
  · simp at hf
/-- The node above. -/
theorem gr_up {ps : List Pg} {D : Dv} {fr pg i1 i2 : Nat} {P own pgs : List Nat} {K1 mid K2 : List Sb} {Gs Ls' : List (List En)} {pM : List Pr} {gM : List Nat} {BL : List Bytes} {f b : Nat} (_hpg : pg = pg)
    (hB1 : B1 = ovr (blkOf D fr) ((placeT ps i1).zip BL)) (hBL : BL.length = i1) (hi2 : i2 = Gs.length) (hfree : ∀ j, j < i1 + i2 → leastFree (tdones j ps) ≠ none) (hP : ∀ n, ps[n]? = some (false, false) → n ∉ P) (hin : ∀ q ∈ pgs, q ∈ P)
    (hN : ps.length ≤ 4096) (hN0 : 0 < ps.length) (hsub : ∀ k ∈ kids, Sub (blkOf D fr) ps.length m k) (hpgs : pgs = kids.flatMap Sb.pgs)
    (hg : Gr B1 ps.length m kids K1 mid K2 Gs pM gM (placeT ps i1) X (ed.f prs) f b) (hrise : RiseP (ed.f prs)) (hok : ∀ p ∈ ed.f prs, PrOk p) (hsz : nsize (m + 1) (kids.map kidE) ≤ 503)
    (hh : Halved (m + 1) ((kids.map kidE).take f ++ placeE (tdones i1 ps) (Gs.map (mkN m)) i2 ++ (kids.map kidE).drop b) Ls') :
    ∃ pgs', Redone (ovr (blkOf D fr) ((placeT ps (i1 + i2)).zip (BL ++ placeB (Gs.map (mkN m)) i2))) ps.length (m + 1) Ls' (ed.f prs) pgs' ∧ (own ++ pgs ++ placeT ps (i1 + i2)).Perm (own ++ X ++ pgs') := by
  subst hi2
  obtain ⟨hnd, hfr⟩ := placeT_free hfree
  have hlenB : (BL ++ placeB (Gs.map (mkN m)) Gs.length).length = (placeT ps (i1 + Gs.length)).length := by
    rw [List.length_append, placeB_length (by simp), hBL, placeT_length]
  have e2 : ovr (blkOf D fr) ((placeT ps (i1 + Gs.length)).zip (BL ++ placeB (Gs.map (mkN m)) Gs.length)) = ovr B1 ((placeT (tdones i1 ps) Gs.length).zip (placeB (Gs.map (mkN m)) Gs.length)) := by
    rw [placeT_add, List.zip_append (by rw [placeT_length, hBL]), ovr_append, ← hB1]
  obtain ⟨B2, hB2⟩ : ∃ B2, B2 = ovr (blkOf D fr) ((placeT ps (i1 + Gs.length)).zip (BL ++ placeB (Gs.map (mkN m)) Gs.length)) := ⟨_, rfl⟩
  rw [← hB2]
  rw [← hB2] at e2
  have hTP : ∀ q ∈ P, q ∉ placeT ps (i1 + Gs.length) := fun q hq ht => hP q (hfr q ht) hq
  have hadd := placeT_add ps i1 Gs.length
  rw [hadd] at hnd
  obtain ⟨_, hnd2, hdis⟩ := List.nodup_append.1 hnd
  have hparts := hg.parts
  have hinK : ∀ k ∈ kids, ∀ q ∈ k.pgs, q ∈ P := fun k hk q hq => hin q (by rw [hpgs]; exact List.mem_flatMap.2 ⟨k, hk, hq⟩)
  have hs2 : ∀ k ∈ K1 ++ K2, Sub B2 ps.length m k := fun k hk => by
    have hkk : k ∈ kids := by rw [hparts]; simp only [List.mem_append] at hk ⊢; exact hk.elim (fun h => .inl (.inl h)) .inr
    exact (hsub k hkk).congr fun q hq => by rw [hB2]; exact ovr_out' hlenB (hTP q (hinK k hkk q hq))
  have hgM : ∀ q ∈ gM, q ∉ placeT (tdones i1 ps) Gs.length := fun q hq ht => by
    have h1 := (hg.perm.mem_iff (a := q)).2 (List.mem_append_right _ hq)
    rcases List.mem_append.1 h1 with h2 | h2
    · obtain ⟨k, hk, hqk⟩ := List.mem_flatMap.1 h2
      exact hTP q (hinK k (by rw [hparts]; simp only [List.mem_append]; exact .inl (.inr hk)) q hqk) (by rw [hadd]; exact List.mem_append_right _ ht)
    · exact hdis q h2 q ht rfl
  have hlen2 : (placeB (Gs.map (mkN m)) Gs.length).length = (placeT (tdones i1 ps) Gs.length).length := by rw [placeB_length (by simp), placeT_length]
  have hnb2 : Nb B2 ps.length m Gs.flatten pM gM := hg.nb.congr fun q hq => by rw [e2]; exact ovr_out' hlen2 (hgM q hq)
  have hf := hg.first
  have hb := hg.behind
  have et : (kids.map kidE).take f = K1.map kidE := by rw [hparts, ← hf]; simp
  have eb : (kids.map kidE).drop b = K2.map kidE := by
    rw [hparts, ← hb, List.map_append]
    exact List.drop_left' (by simp)
  rw [et, eb, placeE_kids] at hh
  have hprs := hg.prs
  rw [hprs] at hrise hok
  obtain ⟨pgs', h1, h2⟩ := redone_inner (own := own) (mid := mid) (T1 := placeT ps i1) (X := X) hN hN0 hs2 hg.ok hnb2 (placeT_length _ _) (fun t ht => by
    have := (List.getElem?_eq_some_iff.1 (hfr t (by rw [hadd]; exact List.mem_append_right _ ht))).1
    exact this) (fun i t L ht hL => by
    rw [e2]
    refine ovr_at hlen2 hnd2 ht ?_
    rw [placeB_kids, List.getElem?_map, hL]
    rfl) hrise hok hg.few (by rw [← hparts]; exact hsz) hg.some_ hg.perm hh
  refine ⟨pgs', hprs ▸ h1, ?_⟩
  rw [hpgs, hadd]
  rw [hparts]
  exact h2
end
end Go.Proofs.YtgekeemhbnhelaaGreat
