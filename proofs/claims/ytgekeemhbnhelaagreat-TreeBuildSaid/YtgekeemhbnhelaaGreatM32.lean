/- The root of what a root has, with what is done to a leaf: the walk of change; conditions: the root's tree is whole, its pages are none of the free ones. · With a pair more, without a pair: the walks of Put and Cut; conditions: the root's tree is whole, its pages are none of the free ones. · A root that holds all pages that are taken, as lists: what stands in the blocks behind writes, the pages behind a change; no condition. · A tree over a device and pages; what calls answer of no tree, and of what may not be: the walks of New, and of Scan, Walk and Build as far as they look no further; no condition. -/
import Derived.Test.YtgekeemhbnhelaaGreatM29
import Derived.Test.YtgekeemhbnhelaaGreatM30
import Derived.Test.YtgekeemhbnhelaaGreatM31
namespace Go.Proofs.YtgekeemhbnhelaaGreat
open Go.RowKit

section
variable {w w' : World} {tb db pb fr : Nat} {D : Dv} {ps : List Pg} {S F G : Nat → Prop} {tev ttv : Value}
/-- A work that has just begun. -/
theorem StAt.begin {top : Nd} {wb : Nat} (h : TrAt w tb db pb fr D ps S F G) (hw : ¬ S wb) (hb : Cel w wb [ptr tb, .int .i64 top.page, .int .i64 (top.lvl : Nat), tev, ttv, .slice none 0 0, .slice none 0 0, .slice none 0 0, .slice none 0 0] 112) (hne : wb ≠ tb)
    (he : Rd kdEn w (fun q => S q ∨ q = wb) tev top.ents) (ht : Bsf w (fun q => S q ∨ q = wb) ttv top.to) : StAt w tb db pb fr D ps wb top ⟨[], [], []⟩ (fun q => S q ∨ q = wb) F G tev ttv (.slice none 0 0) (.slice none 0 0) (.slice none 0 0) :=
  { tr := ⟨h.tree, h.dev, h.pgs, h.fg, fun q hq => .inl (h.fs q hq), fun q hq => .inl (h.gs q hq), fun q hq => hq.elim (h.lt q) (fun e => e ▸ hb.lt), fun hq => hq.elim h.out (fun e => hne e.symm), h.room⟩
    cel := hb, te := he, tt := ht, rt := Ro.nil _ _ _ _, rb := Ro.nil _ _ _ _, rx := Ro.nil _ _ _ _, ws := .inr rfl, wf := ⟨fun hq => hw (h.fs _ hq), fun hq => hw (h.gs _ hq)⟩
    tf := (fun q hq => by cases hq), bf := (fun q hq => by cases hq), xf := (fun q hq => by cases hq), tx := (fun q hq => by cases hq), tbn := (fun q hq => by cases hq), bx := (fun q hq => by cases hq) }
end

theorem nodup_len : ∀ (N : Nat) (l : List Nat), l.Nodup → (∀ x ∈ l, x < N) → l.length ≤ N
  | 0, l, _, h => by
    cases l with
    | nil => exact Nat.le_refl _
    | cons a r => exact absurd (h a List.mem_cons_self) (Nat.not_lt_zero _)
  | N + 1, l, hn, h => by
    have ih := nodup_len N (l.erase N) (hn.erase N) (fun x hx => by
      have h1 := (hn.mem_erase_iff).1 hx
      have h2 := h x h1.2
      have := h1.1
      omega)
    have := List.length_erase_of_mem (a := N) (l := l)
    by_cases hm : N ∈ l
    · have := this hm
      omega
    · rw [List.erase_of_not_mem hm] at ih
      omega
/-- A tree of a level has so many pages at least. -/
theorem Sub.size {B : Nat → Bytes} {N : Nat} : ∀ {l : Nat} {k : Sb}, Sub B N l k → 2 ^ (l + 1) ≤ k.pgs.length + 1
  | 0, k, h => by
    obtain ⟨ces, cpg, g1, g2, g3, g4, g5, g6⟩ := h
    rw [g4, List.length_cons]
    omega
  | l + 1, k, h => by
    obtain ⟨ces, cpg, g1, g2, g3, g4, g5, g6⟩ := h
    obtain ⟨kids, h1, h2, h3, h4⟩ := Nb.succ.1 g3
    have hl := g1.2 (by omega)
    rw [h1, List.length_map] at hl
    obtain ⟨a, b, r, rfl⟩ : ∃ a b r, kids = a :: b :: r := by
      rcases kids with _ | ⟨a, _ | ⟨b, r⟩⟩
      · simp at hl
      · simp at hl
      · exact ⟨a, b, r, rfl⟩
    have ha := Sub.size (h4 a (by simp))
    have hb := Sub.size (h4 b (by simp))
    rw [g4, h3, List.length_cons, List.flatMap_cons, List.flatMap_cons, List.length_append, List.length_append, Nat.pow_succ]
    omega

theorem endE_full (fr : Nat) (D : Dv) (k : Wk) : endE fr D k 7 = 7 ∧ endD fr D k 7 = D := by
  unfold endE endD
  exact ⟨if_neg (by omega), if_neg (by omega)⟩
theorem endE_zero (fr : Nat) (D : Dv) (T : List Nat) (BL : List Bytes) (X : List Nat) : endE fr D ⟨T, BL, X⟩ 0 = (writesP fr D (T.zip BL)).2 ∧ endD fr D ⟨T, BL, X⟩ 0 = (writesP fr D (T.zip BL)).1 := by
  unfold endE endD
  exact ⟨if_pos rfl, if_pos rfl⟩
theorem endL_off {l : List Pg} {k : Wk} {c : Int} (h : c ≠ 0) : endL l k c = dropsP l k.T := by
  unfold endL
  exact if_neg h
theorem endL_on {l : List Pg} {k : Wk} : endL l k 0 = dropsP l k.X := by
  unfold endL
  exact if_pos rfl

/-- What change answers and leaves. -/
def Changes (w0 : World) (tb db pb fr : Nat) (D : Dv) (ps : List Pg) (S0 : Nat → Prop) (root : Int) (prs : List Pr) (pgs : List Nat) (ed : Ed) (e : Ending) (w' : World) : Prop :=
  ∃ S' : Nat → Prop, Step S0 w0 w' S' ∧
    ((ed.is prs = false ∧ TrS w' tb db pb fr D ps S' ∧ e = .returned (.tuple #[.int .i64 root, .bool false, err 0])) ∨
     (ed.is prs = true ∧ ∃ (lvl i : Nat) (BL : List Bytes) (Xs : List Nat), 2 ^ lvl ≤ pgs.length + 1 ∧ (∀ j, j < i → leastFree (tdones j ps) ≠ none) ∧ BL.length = i ∧ (∀ b ∈ BL, b.length = 512) ∧ i ≤ 2 * lvl + 3 ∧
       ((leastFree (tdones i ps) = none ∧ i < 2 * lvl + 3 ∧ TrS w' tb db pb fr D (dropsP (tdones i ps) (placeT ps i)) S' ∧ e = .returned (.tuple #[.int .i64 0, .bool false, err 7])) ∨
        ((writesP fr D ((placeT ps i).zip BL)).2 ≠ 0 ∧ TrS w' tb db pb fr (writesP fr D ((placeT ps i).zip BL)).1 (dropsP (tdones i ps) (placeT ps i)) S' ∧ e = .returned (.tuple #[.int .i64 0, .bool false, err (writesP fr D ((placeT ps i).zip BL)).2])) ∨
        ((writesP fr D ((placeT ps i).zip BL)).2 = 0 ∧ TrS w' tb db pb fr (writesP fr D ((placeT ps i).zip BL)).1 (dropsP (tdones i ps) Xs) S' ∧ ∃ (root' : Int) (pgs' : List Nat), e = .returned (.tuple #[.int .i64 root', .bool true, err 0]) ∧
          Rt (ovr (blkOf D fr) ((placeT ps i).zip BL)) ps.length root' (ed.f prs) pgs' ∧ (pgs ++ placeT ps i).Perm (Xs ++ pgs')))))

set_option maxRecDepth 100000 in
set_option maxHeartbeats 8000000 in
theorem change_any {w : World} {tb db pb fr n : Nat} {D : Dv} {ps : List Pg} {S : Nat → Prop} {root : Int} {prs : List Pr} {pgs : List Nat} {ed : Ed} {kv : Value} (h : TrS w tb db pb fr D ps S) (ho : D.on = true) (hrt : Rt (blkOf D fr) ps.length root prs pgs)
    (hfree : ∀ q, ps[q]? = some (false, false) → q ∉ pgs) (hnd : pgs.Nodup) (hkey : Bsf w S kv ed.key) (hat : ed.At w S) (hok : ed.Ok) (hfr : fr ≤ 4096) (hu : Upto D n) (hn : n ≤ 4000000000) :
    Calls Tryz.prog 64 #[ptr tb, .int .i64 root, kv, ed.v] w (Changes w tb db pb fr D ps S root prs pgs ed) := by
  obtain ⟨⟨npg, nl, nes, nto⟩, cpg, hT, hnb, hto, hl, hrb, hc⟩ := top_rt w h ho hrt
  simp only at hnb hto hl hc
  subst hto
  have hN := h.few.2
  have hpgs : ownP npg ++ cpg = pgs := by
    rcases hc with ⟨rfl, _, _, _, rfl, rfl, _⟩ | ⟨_, rfl, k, rfl, _, rfl, _⟩
    · rfl
    · rw [ownP_nat]; rfl
  have hp1 : -1 ≤ npg := by
    rcases hc with ⟨rfl, _⟩ | ⟨_, rfl, k, rfl, _⟩ <;> omega
  have hlt : ∀ q ∈ pgs, q < ps.length := fun q hq => by
    rcases hc with ⟨_, _, _, _, rfl, _⟩ | ⟨_, _, k, _, hk, rfl, _⟩
    · cases hq
    · rcases List.mem_cons.1 hq with rfl | h1
      · exact hk
      · exact hnb.pages_lt q h1
  have hplen := nodup_len _ _ hnd hlt
  have hpow : 2 ^ nl ≤ pgs.length + 1 := by
    rcases hc with ⟨_, rfl, _⟩ | ⟨_, _, k, _, _, _, hs⟩
    · simp
    · have h1 : 2 ^ (nl + 1) ≤ pgs.length + 1 := hs.size
      rw [Nat.pow_succ] at h1
      omega
  have hnl : nl ≤ 12 := by
    rcases Nat.lt_or_ge nl 13 with h1 | h1
    · omega
    · have : 2 ^ 13 ≤ 2 ^ nl := Nat.pow_le_pow_right (by omega) h1
      omega
  have hnok : nl = 0 ∧ nes = [] ∨ NdOk ps.length nl nes := by
    rcases hc with ⟨_, h1, h2, _⟩ | ⟨h1, _⟩
    · exact .inl ⟨h1, h2⟩
    · exact .inr h1
  have htop : TopOk (blkOf D fr) ps.length ⟨npg, nl, nes, []⟩ pgs := by
    rcases hc with ⟨h1, _⟩ | ⟨h1, h2, k, h3, _, h5, _⟩
    · exact .inl h1
    · exact .inr ⟨k, cpg, prs, by rw [h2, h3], h5, hnb, h1, hrt.rise, .inl rfl, hl⟩
  obtain ⟨dv, hdv⟩ : ∃ dv, dv = ed.v := ⟨_, rfl⟩
  rw [← hdv]
  have HH := Lib.hid (And.intro h (And.intro ho (And.intro hrt (And.intro hfree (And.intro hkey (And.intro hat (And.intro hok (And.intro hu (And.intro hnb (And.intro hpgs (And.intro hp1 (And.intro hpow (And.intro hnl (And.intro hnok (And.intro htop (And.intro hdv (And.intro hN hfr)))))))))))))))))
  clear h ho hrt hfree hnd hkey hat hok hu hnb hpgs hp1 hlt hplen hpow hnl hnok htop hc hrb hl hdv hN hfr
  go_enter Tryz.func64, Tryz.ntmps64
  go_wp2_with fail
  refine hT.mono ?_
  rintro e w1 ⟨nv, rfl, hnv, hb1⟩
  clear hT
  obtain ⟨ea, ec, ta, tc, rfl, hne, hnt⟩ := hnv
  obtain ⟨en, hen⟩ : ∃ en, en = nes.length := ⟨_, rfl⟩
  replace hne : Rd kdEn w1 S (.slice ea nes.length ec) nes := hne
  replace hnt : Bsf w1 S (.slice ta 0 tc) [] := hnt
  rw [← hen] at hne
  simp only [List.length_nil]
  rw [← hen]
  obtain ⟨W3, hW3⟩ : ∃ W3, W3 = (w1.alloc (.cells #[.int .i64 npg, .int .i64 (nl : Int), .slice ea en ec, .slice ta 0 tc] 85)).alloc (.cells #[ptr tb, .int .i64 npg, .int .i64 (nl : Int), .slice ea en ec, .slice ta 0 tc, .slice none 0 0, .slice none 0 0, .slice none 0 0, .slice none 0 0] 112) := ⟨_, rfl⟩
  have hb3 : Below w1.heap.size w1 W3 := by rw [hW3]; exact ((Below.refl _ _).alloc (Nat.le_refl _) _).alloc (by simp) _
  have hbw : Below w.heap.size w W3 := hb1.trans (hb3.mono hb1.size)
  have CW : Cel W3 (w1.heap.size + 1) [ptr tb, .int .i64 npg, .int .i64 (nl : Int), .slice ea en ec, .slice ta 0 tc, .slice none 0 0, .slice none 0 0, .slice none 0 0, .slice none 0 0] 112 := by
    have := Cel.new (w1.alloc (.cells #[.int .i64 npg, .int .i64 (nl : Int), .slice ea en ec, .slice ta 0 tc] 85)) #[ptr tb, .int .i64 npg, .int .i64 (nl : Int), .slice ea en ec, .slice ta 0 tc, .slice none 0 0, .slice none 0 0, .slice none 0 0, .slice none 0 0] 112
    rw [hW3]
    simpa using this
  have CB : Cel W3 w1.heap.size [.int .i64 npg, .int .i64 (nl : Int), .slice ea en ec, .slice ta 0 tc] 85 := by
    rw [hW3]
    exact (Cel.new w1 _ _).alloc _
  have hz1 := hb1.size
  obtain ⟨F, G, hA⟩ := HH.out.1
  have stS : Step S w W3 (fun q => S q ∨ q = w1.heap.size + 1) := ⟨Only.of_below hbw S, fun q hq => hq.elim .inl fun e => .inr (by omega)⟩
  have stS1 : Step S w1 W3 (fun q => S q ∨ q = w1.heap.size + 1) := ⟨Only.of_below hb3 S, fun q hq => hq.elim .inl fun e => .inr (by omega)⟩
  have hne3 := hne.step stS1
  have hnt3 := hnt.step stS1
  have htl := hA.tree.lt
  have hst := StAt.begin (top := ⟨npg, nl, nes, []⟩) (hA.below hbw) (fun hq => by have := hA.lt _ hq; omega) CW (by omega) hne3 hnt3
  have hR : RedoH W3 tb db pb fr D ps (w1.heap.size + 1) ⟨npg, nl, nes, []⟩ pgs [] (fun q => S q ∨ q = w1.heap.size + 1) F G (.slice ea en ec) (.slice ta 0 tc) (.slice none 0 0) (.slice none 0 0) (.slice none 0 0) nl npg (.slice ea en ec) (.slice ta 0 tc) kv nes [] prs cpg ed :=
    { st := hst, on := HH.out.2.1, top_ := HH.out.2.2.2.2.2.2.2.2.2.2.2.2.2.2.1, free := HH.out.2.2.2.1, pg1 := HH.out.2.2.2.2.2.2.2.2.2.2.1, in_ := fun q hq => by rw [HH.out.2.2.2.2.2.2.2.2.2.1] at hq; exact hq
      rd := hne3, rt := hnt3, key := HH.out.2.2.2.2.1.step stS, nb := HH.out.2.2.2.2.2.2.2.2.1, ok := HH.out.2.2.2.2.2.2.2.2.2.2.2.2.2.1, rise := HH.out.2.2.1.rise, und := .inl rfl, few := by have := HH.out.2.2.2.2.2.2.2.2.2.2.2.2.1; omega
      x := by have := HH.out.2.2.2.2.2.2.2.2.2.2.2.2.1; show 0 + 2 * nl ≤ _; omega, at_ := HH.out.2.2.2.2.2.1.step stS, edok := HH.out.2.2.2.2.2.2.1 }
  have R := redo_any nl W3 [] _ _ _ _ npg (.slice ea en ec) (.slice ta 0 tc) nes [] prs cpg hR
  rw [← HH.out.2.2.2.2.2.2.2.2.2.2.2.2.2.2.2.1] at R
  have b0 := CB.cell 0
  have b1 := CB.cell 1
  have b2 := CB.cell 2
  have b3 := CB.cell 3
  have prok := hR.prok
  have H1 := Lib.hid (And.intro stS (And.intro hbw (And.intro prok (And.intro hz1 (And.intro hW3 hR.pos)))))
  rw [hW3] at R b0 b1 b2 b3
  clear hst hR stS stS1 hne3 hnt3 hne hnt CW CB hbw hb3 hb1 htl hA hz1 hen prok hW3
  go_wp2_with fail
  refine R.mono ?_
  rintro e w4 ⟨i1, Xs, BL, S4, tv4, bv4, xv4, h4, st4, in4, hf4, hi4, hx4, hB4, h512, hcase⟩
  clear R b0 b1 b2 b3
  rw [← H1.out.2.2.2.2.1] at st4
  have hst4 := H1.out.1.trans st4
  have hnl := HH.out.2.2.2.2.2.2.2.2.2.2.2.2.1
  have hT4 : ∀ i : Nat, (∀ j, j < i → leastFree (tdones j ps) ≠ none) → ∀ t ∈ placeT ps i, t < 4096   := fun i hf t ht => by have := placeT_lt hf ht; have := H1.out.2.2.2.2.2.2; omega
  rcases hcase with ⟨hn0, rfl, na, nc, rfl⟩ | ⟨his, hlf, rfl⟩ | ⟨his, v, Ls, pgs1, rfl, hrv, hrd, hperm⟩
  · have H2 := Lib.hid (And.intro h4 (And.intro hst4 hn0))
    clear h4 st4 in4 hf4 hi4 hx4 hB4 h512 hst4 hnl hT4 hn0
    go_wp2
    go_ret3
    exact ⟨S4, H2.out.2.1, .inl ⟨H2.out.2.2, ⟨F, G, H2.out.1.tr⟩, rfl⟩⟩
  · have E := end_any' (c := 7) (root := 0) (n := n) ⟨_, _, _, _, _, _, _, h4⟩ (by rw [placeT_length]; exact hB4) h512 (hT4 _ hf4) HH.out.2.2.2.2.2.2.2.2.2.2.2.2.2.2.2.2.2 HH.out.2.2.2.2.2.2.2.1 (by show n + (placeT ps i1).length < _; rw [placeT_length]; omega) (by show ([] ++ Xs).length ≤ _; rw [List.nil_append]; omega)
    rw [(endE_full fr D _).1, (endE_full fr D _).2, endL_off (by omega)] at E
    have H2 := Lib.hid (And.intro hst4 (And.intro hf4 (And.intro hi4 (And.intro hB4 (And.intro his (And.intro hlf h512))))))
    clear h4 st4 in4 hf4 hi4 hx4 hB4 h512 hst4 hnl hT4 his hlf
    go_wp2_with fail
    refine E.mono ?_
    rintro e w5 ⟨rfl, S5, h5, st5⟩
    clear E
    have H3 := Lib.hid (And.intro h5 st5)
    clear h5 st5
    go_wp2
    go_ret3
    obtain ⟨hst4, hf4, hi4, hB4, his, hlf, h512⟩ := H2.out
    exact ⟨S5, hst4.trans H3.out.2, .inr ⟨his, nl, i1, BL, [], HH.out.2.2.2.2.2.2.2.2.2.2.2.1, hf4, hB4, h512, by omega, .inl ⟨hlf, by omega, H3.out.1, rfl⟩⟩⟩
  · have hfew := hrd.few
    have hm : mostN Ls.length ≤ 3 := by rw [← mostN_two]; exact mostN_mono _ _ _ (Nat.le_refl _) hfew
    have hout : ∀ q ∈ pgs1, q ∈ pgs ∨ q ∈ placeT ps i1 := fun q hq => by
      have h1 := (hperm.mem_iff (a := q)).2 (List.mem_append_right _ hq)
      rw [HH.out.2.2.2.2.2.2.2.2.2.1] at h1
      exact List.mem_append.1 h1
    have RS := rise_any (P := pgs) h4 hrv HH.out.2.1 HH.out.2.2.2.2.2.2.2.2.2.2.2.2.2.2.1 HH.out.2.2.2.1 hf4 hB4 hrd.rises hout (ed.rise HH.out.2.2.1.rise) (ed.prok HH.out.2.2.2.2.2.2.1 H1.out.2.2.1) (by omega) (by omega)
    obtain ⟨va, vc, rfl, _⟩ := hrv.shape
    obtain ⟨ln, hln⟩ : ∃ ln, ln = (Ls.map (mkN nl)).length := ⟨_, rfl⟩
    rw [← hln] at RS
    rw [← hln]
    have H2 := Lib.hid (And.intro hst4 (And.intro hf4 (And.intro hi4 (And.intro hB4 (And.intro his (And.intro hx4 (And.intro h512 (And.intro hperm hm))))))))
    clear h4 st4 in4 hf4 hi4 hx4 hB4 h512 hst4 hnl his hrv hrd hperm hfew hm hout hln
    have HT4 := Lib.hid hT4
    clear hT4
    go_wp2_with fail
    refine RS.mono ?_
    rintro e w5 ⟨i2, BL', S5, tv5, bv5, h5, st5, in5, hf5, hB5, h512', hi5, (⟨root', pgs', rfl, hrt', hperm'⟩ | ⟨hlt5, hnone, rfl⟩)⟩
    · clear RS
      obtain ⟨hst4, hf4, hi4, hB4, his, hx4, h512, hperm, hm⟩ := H2.out
      have E := end_any' (c := 0) (root := root') (n := n) ⟨_, _, _, _, _, _, _, h5⟩ (by rw [placeT_length, List.length_append, hB4, hB5]) (fun b hb => (List.mem_append.1 hb).elim (h512 b) (h512' b)) (HT4.out _ hf5) HH.out.2.2.2.2.2.2.2.2.2.2.2.2.2.2.2.2.2 HH.out.2.2.2.2.2.2.2.1
        (by have := HH.out.2.2.2.2.2.2.2.2.2.2.2.2.1; show n + (placeT ps (i1 + i2)).length < _; rw [placeT_length]; omega) (by have := HH.out.2.2.2.2.2.2.2.2.2.2.2.2.1; show ([] ++ Xs).length ≤ _; rw [List.nil_append]; omega)
      rw [(endE_zero fr D _ _ _).1, (endE_zero fr D _ _ _).2] at E
      have hpm : (pgs ++ placeT ps (i1 + i2)).Perm (Xs ++ pgs') := by
        rw [HH.out.2.2.2.2.2.2.2.2.2.1] at hperm
        rw [placeT_add]
        refine List.perm_iff_count.2 fun a => ?_
        have c1 := List.perm_iff_count.1 hperm a
        have c2 := List.perm_iff_count.1 hperm' a
        simp only [List.count_append] at c1 c2 ⊢
        omega
      have H3 := Lib.hid (And.intro (hst4.trans st5) (And.intro hf5 (And.intro (show (BL ++ BL').length = i1 + i2 by rw [List.length_append, hB4, hB5]) (And.intro hrt' (And.intro hpm (And.intro (show i1 + i2 ≤ 2 * nl + 3 by omega) (show ∀ b ∈ BL ++ BL', b.length = 512 from fun b hb => (List.mem_append.1 hb).elim (h512 b) (h512' b))))))))
      clear hst4 hf4 hi4 hB4 hx4 h512 hperm hm h5 st5 in5 hf5 hB5 h512' hi5 hrt' hperm' hpm his
      obtain ⟨wc, hwc⟩ : ∃ wc, wc = (writesP fr D ((placeT ps (i1 + i2)).zip (BL ++ BL'))).2 := ⟨_, rfl⟩
      rw [← hwc] at E
      by_cases h0 : wc = 0
      · rw [h0, endL_on] at E
        rw [h0] at hwc
        have HW := Lib.hid hwc
        clear hwc h0
        go_wp2_with fail
        refine E.mono ?_
        rintro e w6 ⟨he, S6, h6, st6⟩
        rw [if_pos rfl] at he
        subst he
        clear E
        have H4 := Lib.hid (And.intro h6 st6)
        clear h6 st6
        go_wp2
        go_ret3
        obtain ⟨hst5, hf5, hB5, hrt', hpm, hi5, hb5⟩ := H3.out
        refine ⟨S6, hst5.trans H4.out.2, .inr ⟨H2.out.2.2.2.2.1, nl, i1 + i2, BL ++ BL', Xs, HH.out.2.2.2.2.2.2.2.2.2.2.2.1, hf5, hB5, hb5, hi5, .inr (.inr ⟨HW.out.symm, ?_, root', pgs', rfl, hrt', hpm⟩)⟩⟩
        have h9 := H4.out.1
        exact h9
      · have h0b : (wc == 0) = false := by rw [beq_eq_false_iff_ne]; exact h0
        rw [endL_off h0] at E
        have HW := Lib.hid (And.intro hwc h0)
        clear hwc
        go_wp2_with fail
        refine E.mono ?_
        rintro e w6 ⟨he, S6, h6, st6⟩
        rw [if_neg HW.out.2] at he
        subst he
        clear E
        have H4 := Lib.hid (And.intro h6 st6)
        clear h6 st6
        go_wp2
        go_ret3
        obtain ⟨hst5, hf5, hB5, hrt', hpm, hi5, hb5⟩ := H3.out
        exact ⟨S6, hst5.trans H4.out.2, .inr ⟨H2.out.2.2.2.2.1, nl, i1 + i2, BL ++ BL', Xs, HH.out.2.2.2.2.2.2.2.2.2.2.2.1, hf5, hB5, hb5, hi5, .inr (.inl ⟨by rw [← HW.out.1]; exact HW.out.2, H4.out.1, by rw [← HW.out.1]; rfl⟩)⟩⟩
    · clear RS
      obtain ⟨hst4, hf4, hi4, hB4, his, hx4, h512, hperm, hm⟩ := H2.out
      have E := end_any' (c := 7) (root := 0) (n := n) ⟨_, _, _, _, _, _, _, h5⟩ (by rw [placeT_length, List.length_append, hB4, hB5]) (fun b hb => (List.mem_append.1 hb).elim (h512 b) (h512' b)) (HT4.out _ hf5) HH.out.2.2.2.2.2.2.2.2.2.2.2.2.2.2.2.2.2 HH.out.2.2.2.2.2.2.2.1
        (by have := HH.out.2.2.2.2.2.2.2.2.2.2.2.2.1; show n + (placeT ps (i1 + i2)).length < _; rw [placeT_length]; omega) (by have := HH.out.2.2.2.2.2.2.2.2.2.2.2.2.1; show ([] ++ Xs).length ≤ _; rw [List.nil_append]; omega)
      rw [(endE_full fr D _).1, (endE_full fr D _).2, endL_off (by omega)] at E
      have H3 := Lib.hid (And.intro (hst4.trans st5) (And.intro hf5 (And.intro (show (BL ++ BL').length = i1 + i2 by rw [List.length_append, hB4, hB5]) (And.intro hnone (And.intro (show i1 + i2 < 2 * nl + 3 by omega) (show ∀ b ∈ BL ++ BL', b.length = 512 from fun b hb => (List.mem_append.1 hb).elim (h512 b) (h512' b)))))))
      clear hst4 hf4 hi4 hB4 hx4 h512 hperm hm h5 st5 in5 hf5 hB5 h512' hi5 hlt5 hnone his
      go_wp2_with fail
      refine E.mono ?_
      rintro e w6 ⟨rfl, S6, h6, st6⟩
      clear E
      have H4 := Lib.hid (And.intro h6 st6)
      clear h6 st6
      go_wp2
      go_ret3
      obtain ⟨hst5, hf5, hB5, hnone, hi5, hb5⟩ := H3.out
      exact ⟨S6, hst5.trans H4.out.2, .inr ⟨H2.out.2.2.2.2.1, nl, i1 + i2, BL ++ BL', [], HH.out.2.2.2.2.2.2.2.2.2.2.2.1, hf5, hB5, hb5, by omega, .inl ⟨hnone, hi5, H4.out.1, rfl⟩⟩⟩
end Go.Proofs.YtgekeemhbnhelaaGreat
namespace Go.Proofs.YtgekeemhbnhelaaGreat
open Go.RowKit

theorem Changes.from_ {w0 w1 w' : World} {tb db pb fr : Nat} {D : Dv} {ps : List Pg} {S : Nat → Prop} {root : Int} {prs : List Pr} {pgs : List Nat} {ed : Ed} {e : Ending} (hb : Below w0.heap.size w0 w1) (h : Changes w1 tb db pb fr D ps S root prs pgs ed e w') : Changes w0 tb db pb fr D ps S root prs pgs ed e w' := by
  obtain ⟨S', h1, h2⟩ := h
  exact ⟨S', (Step.of_below hb S).trans h1, h2⟩
/-- What change answers, in three. -/
theorem Changes.form {w0 w' : World} {tb db pb fr : Nat} {D : Dv} {ps : List Pg} {S : Nat → Prop} {root : Int} {prs : List Pr} {pgs : List Nat} {ed : Ed} {e : Ending} (h : Changes w0 tb db pb fr D ps S root prs pgs ed e w') : ∃ (r : Int) (b : Bool) (c : Int), e = .returned (.tuple #[.int .i64 r, .bool b, err c]) := by
  obtain ⟨S', h1, h2⟩ := h
  rcases h2 with ⟨_, _, rfl⟩ | ⟨_, _, _, _, _, _, _, _, _, _, h2⟩
  · exact ⟨_, _, _, rfl⟩
  · rcases h2 with ⟨_, _, _, rfl⟩ | ⟨_, _, rfl⟩ | ⟨_, _, _, _, rfl, _⟩
    · exact ⟨_, _, _, rfl⟩
    · exact ⟨_, _, _, rfl⟩
    · exact ⟨_, _, _, rfl⟩

section
variable {w : World} {tb db pb fr n : Nat} {D : Dv} {ps : List Pg} {S : Nat → Prop} {root : Int} {prs : List Pr} {pgs : List Nat} {kv vv : Value} {key val : Bytes}

set_option maxRecDepth 100000 in
set_option maxHeartbeats 4000000 in
theorem tcut_any (h : TrS w tb db pb fr D ps S) (ho : D.on = true) (hrt : Rt (blkOf D fr) ps.length root prs pgs) (hfree : ∀ q, ps[q]? = some (false, false) → q ∉ pgs) (hnd : pgs.Nodup) (hkey : Bsf w S kv key) (hmay : mayK key = true) (hroot : rootB ps.length root = true)
    (hfr : fr ≤ 4096) (hu : Upto D n) (hn : n ≤ 4000000000) : Calls Tryz.prog 34 #[ptr tb, .int .i64 root, kv] w (Changes w tb db pb fr D ps S root prs pgs (.cut key w.heap.size)) := by
  have hb1 : Below w.heap.size w (w.alloc (.cells #[kv] 23)) := (Below.refl _ _).alloc (Nat.le_refl _) _
  have C1 : Cel (w.alloc (.cells #[kv] 23)) w.heap.size [kv] 23 := Cel.new w _ _
  have hst := Step.of_below hb1 S
  have hat : (Ed.cut key w.heap.size).At (w.alloc (.cells #[kv] 23)) S := ⟨C1.lt, fun hs => Nat.lt_irrefl _ (h.lt _ hs), kv, C1.cell 0, hkey.step hst⟩
  have C := change_any (ed := .cut key w.heap.size) (h.below hb1) ho hrt hfree hnd (hkey.step hst) hat trivial hfr hu hn
  have K := mayKey_any (w.alloc (.cells #[kv] 23)) (hkey.step hst).1
  have R := tready_any root true (w.alloc (.cells #[kv] 23)) (h.below hb1)
  rw [hmay] at K
  rw [hroot, if_pos ⟨rfl, rfl⟩] at R
  have c0 := C1.cell 0
  have HB := Lib.hid hb1
  obtain ⟨ka, kc, rfl, _⟩ := hkey.1.shape
  obtain ⟨kn, hkn⟩ : ∃ kn, kn = key.length := ⟨_, rfl⟩
  rw [← hkn] at C K R c0 HB
  rw [← hkn]
  clear h ho hrt hfree hnd hkey hmay hroot hfr hu hn hb1 C1 hst hat hkn
  simp only [Ed.v] at C
  go_enter Tryz.func34, Tryz.ntmps34
  go_wp2_with fail
  refine K.mono ?_
  rintro e w1 ⟨rfl, rfl⟩
  clear K
  go_wp2_with fail
  refine R.mono ?_
  rintro e w1 ⟨rfl, rfl⟩
  clear R
  go_wp2_with fail
  refine C.mono ?_
  rintro e w2 hc
  clear C c0
  obtain ⟨r, b, c, rfl⟩ := hc.form
  have HC := Lib.hid (hc.from_ HB.out)
  clear hc
  go_wp2
  go_ret3
  exact HC.out
theorem tcut_arg (h : TrS w tb db pb fr D ps S) (hkey : Bs w kv key) (hmay : ¬ (rootB ps.length root = true ∧ mayK key = true)) :
    Calls Tryz.prog 34 #[ptr tb, .int .i64 root, kv] w fun e w' => e = .returned (.tuple #[.int .i64 0, .bool false, err 1]) ∧ Below w.heap.size w w' := by
  have hb1 : Below w.heap.size w (w.alloc (.cells #[kv] 23)) := (Below.refl _ _).alloc (Nat.le_refl _) _
  have C1 : Cel (w.alloc (.cells #[kv] 23)) w.heap.size [kv] 23 := Cel.new w _ _
  have K := mayKey_any (w.alloc (.cells #[kv] 23)) (hkey.below hb1)
  have R := tready_any root (mayK key) (w.alloc (.cells #[kv] 23)) (h.below hb1)
  rw [if_neg hmay] at R
  have c0 := C1.cell 0
  have HB := Lib.hid hb1
  obtain ⟨ka, kc, rfl, _⟩ := hkey.shape
  clear h hkey hmay hb1 C1
  go_enter Tryz.func34, Tryz.ntmps34
  go_wp2_with fail
  refine K.mono ?_
  rintro e w1 ⟨rfl, rfl⟩
  clear K
  go_wp2_with fail
  refine R.mono ?_
  rintro e w1 ⟨rfl, rfl⟩
  clear R
  go_wp2
  go_ret3
  exact ⟨rfl, HB.out⟩
/-- What Put answers and leaves. -/
def Puts (w0 : World) (tb db pb fr : Nat) (D : Dv) (ps : List Pg) (S0 : Nat → Prop) (root : Int) (prs : List Pr) (pgs : List Nat) (ed : Ed) (e : Ending) (w' : World) : Prop :=
  ∃ (r : Int) (b : Bool) (c : Int), Changes w0 tb db pb fr D ps S0 root prs pgs ed (.returned (.tuple #[.int .i64 r, .bool b, err c])) w' ∧ e = .returned (.tuple #[.int .i64 r, err c])
set_option maxRecDepth 100000 in
set_option maxHeartbeats 4000000 in
theorem tput_any (h : TrS w tb db pb fr D ps S) (ho : D.on = true) (hrt : Rt (blkOf D fr) ps.length root prs pgs) (hfree : ∀ q, ps[q]? = some (false, false) → q ∉ pgs) (hnd : pgs.Nodup) (hkey : Bsf w S kv key) (hval : Bsf w S vv val) (hmay : mayK key = true) (hmav : mayV val = true) (hroot : rootB ps.length root = true)
    (hfr : fr ≤ 4096) (hu : Upto D n) (hn : n ≤ 4000000000) : Calls Tryz.prog 35 #[ptr tb, .int .i64 root, kv, vv] w (Puts w tb db pb fr D ps S root prs pgs (.put key val w.heap.size (w.heap.size + 1))) := by
  have hb1 : Below w.heap.size w ((w.alloc (.cells #[kv] 23)).alloc (.cells #[vv] 23)) := ((Below.refl _ _).alloc (Nat.le_refl _) _).alloc (by simp) _
  have C1 : Cel ((w.alloc (.cells #[kv] 23)).alloc (.cells #[vv] 23)) w.heap.size [kv] 23 := (Cel.new w _ _).alloc _
  have C2 : Cel ((w.alloc (.cells #[kv] 23)).alloc (.cells #[vv] 23)) (w.heap.size + 1) [vv] 23 := by
    have := Cel.new (w.alloc (.cells #[kv] 23)) #[vv] 23
    simpa using this
  have hst := Step.of_below hb1 S
  have hok : (Ed.put key val w.heap.size (w.heap.size + 1)).Ok := ⟨of_decide_eq_true hmay, of_decide_eq_true hmav⟩
  have hat : (Ed.put key val w.heap.size (w.heap.size + 1)).At ((w.alloc (.cells #[kv] 23)).alloc (.cells #[vv] 23)) S := ⟨C1.lt, fun hs => by have := h.lt _ hs; omega, C2.lt, fun hs => by have := h.lt _ hs; omega, kv, vv, C1.cell 0, C2.cell 0, hkey.step hst, hval.step hst⟩
  have C := change_any (ed := .put key val w.heap.size (w.heap.size + 1)) (h.below hb1) ho hrt hfree hnd (hkey.step hst) hat hok hfr hu hn
  have K := mayKey_any ((w.alloc (.cells #[kv] 23)).alloc (.cells #[vv] 23)) (hkey.step hst).1
  have V := mayValue_any ((w.alloc (.cells #[kv] 23)).alloc (.cells #[vv] 23)) (hval.step hst).1
  have R := tready_any root true ((w.alloc (.cells #[kv] 23)).alloc (.cells #[vv] 23)) (h.below hb1)
  rw [hmay] at K
  rw [hmav] at V
  rw [hroot, if_pos ⟨rfl, rfl⟩] at R
  have c0 := C1.cell 0
  have c1 := C2.cell 0
  have HB := Lib.hid hb1
  obtain ⟨ka, kc, rfl, _⟩ := hkey.1.shape
  obtain ⟨va, vc, rfl, _⟩ := hval.1.shape
  obtain ⟨kn, hkn⟩ : ∃ kn, kn = key.length := ⟨_, rfl⟩
  obtain ⟨vn, hvn⟩ : ∃ vn, vn = val.length := ⟨_, rfl⟩
  rw [← hkn, ← hvn] at C K V R c0 c1 HB
  rw [← hkn, ← hvn]
  clear h ho hrt hfree hnd hkey hval hmay hmav hroot hfr hu hn hb1 C1 C2 hst hat hok hkn hvn
  simp only [Ed.v] at C
  go_enter Tryz.func35, Tryz.ntmps35
  go_wp2_with fail
  refine K.mono ?_
  rintro e w1 ⟨rfl, rfl⟩
  clear K
  go_wp2_with fail
  refine V.mono ?_
  rintro e w1 ⟨rfl, rfl⟩
  clear V
  go_wp2_with fail
  refine R.mono ?_
  rintro e w1 ⟨rfl, rfl⟩
  clear R
  go_wp2_with fail
  refine C.mono ?_
  rintro e w2 hc
  clear C c0 c1
  obtain ⟨r, b, c, rfl⟩ := hc.form
  have HC := Lib.hid (hc.from_ HB.out)
  clear hc
  go_wp2
  go_ret2
  exact ⟨r, b, c, HC.out, rfl⟩
set_option maxRecDepth 100000 in
set_option maxHeartbeats 4000000 in
theorem tput_off (tv : Value) (c : Int) (hc : c ≠ 0) (hR : ∀ W, Below w.heap.size w W → Calls Tryz.prog 42 #[tv, .int .i64 root, .bool (mayK key && mayV val)] W fun e w' => e = .returned (err c) ∧ W = w') (hkey : Bs w kv key) (hval : Bs w vv val) :
    Calls Tryz.prog 35 #[tv, .int .i64 root, kv, vv] w fun e w' => e = .returned (.tuple #[.int .i64 0, err c]) ∧ Below w.heap.size w w' := by
  have hb1 : Below w.heap.size w ((w.alloc (.cells #[kv] 23)).alloc (.cells #[vv] 23)) := ((Below.refl _ _).alloc (Nat.le_refl _) _).alloc (by simp) _
  have C1 : Cel ((w.alloc (.cells #[kv] 23)).alloc (.cells #[vv] 23)) w.heap.size [kv] 23 := (Cel.new w _ _).alloc _
  have C2 : Cel ((w.alloc (.cells #[kv] 23)).alloc (.cells #[vv] 23)) (w.heap.size + 1) [vv] 23 := by
    have := Cel.new (w.alloc (.cells #[kv] 23)) #[vv] 23
    simpa using this
  have K := mayKey_any ((w.alloc (.cells #[kv] 23)).alloc (.cells #[vv] 23)) (hkey.below hb1)
  have V := mayValue_any ((w.alloc (.cells #[kv] 23)).alloc (.cells #[vv] 23)) (hval.below hb1)
  have R := hR ((w.alloc (.cells #[kv] 23)).alloc (.cells #[vv] 23)) hb1
  have hcb : (c == 0) = false := by rw [beq_eq_false_iff_ne]; exact hc
  have c0 := C1.cell 0
  have c1 := C2.cell 0
  have HB := Lib.hid hb1
  obtain ⟨ka, kc, rfl, _⟩ := hkey.shape
  obtain ⟨va, vc, rfl, _⟩ := hval.shape
  generalize mayK key = mk at *
  clear hR hkey hval hb1 C1 C2
  cases mk with
  | false =>
    clear V
    simp only [Bool.false_and] at R
    go_enter Tryz.func35, Tryz.ntmps35
    go_wp2_with fail
    refine K.mono ?_
    rintro e w1 ⟨rfl, rfl⟩
    clear K
    go_wp2_with fail
    refine R.mono ?_
    rintro e w1 ⟨rfl, rfl⟩
    clear R
    go_wp2
    go_ret2
    exact ⟨rfl, HB.out⟩
  | true =>
    simp only [Bool.true_and] at R
    generalize mayV val = mv at *
    go_enter Tryz.func35, Tryz.ntmps35
    go_wp2_with fail
    refine K.mono ?_
    rintro e w1 ⟨rfl, rfl⟩
    clear K
    go_wp2_with fail
    refine V.mono ?_
    rintro e w1 ⟨rfl, rfl⟩
    clear V
    go_wp2_with fail
    refine R.mono ?_
    rintro e w1 ⟨rfl, rfl⟩
    clear R
    go_wp2
    go_ret2
    exact ⟨rfl, HB.out⟩
theorem tput_arg (h : TrS w tb db pb fr D ps S) (hkey : Bs w kv key) (hval : Bs w vv val) (hmay : ¬ (rootB ps.length root = true ∧ (mayK key && mayV val) = true)) :
    Calls Tryz.prog 35 #[ptr tb, .int .i64 root, kv, vv] w fun e w' => e = .returned (.tuple #[.int .i64 0, err 1]) ∧ Below w.heap.size w w' :=
  tput_off _ 1 (by omega) (fun W hW => by have R := tready_any root (mayK key && mayV val) W (h.below hW); rw [if_neg hmay] at R; exact R) hkey hval
end
end Go.Proofs.YtgekeemhbnhelaaGreat
namespace Go.Proofs.YtgekeemhbnhelaaGreat
open Go.RowKit

section
variable {D : Dv} {fr : Nat} {ps : List Pg} {root root' : Int} {prs prs' : List Pr} {pgs pgs' : List Nat}

theorem wcode_zero {k : Int} {b : Bytes} (h : wcode D k b = 0) : D.on = true ∧ ¬ noSuch D k b ∧ D.left ≠ 0 := by
  unfold wcode at h
  split at h
  · omega
  · rename_i h1
    split at h
    · omega
    · rename_i h2
      split at h
      · omega
      · rename_i h3
        exact ⟨by simpa using h1, h2, h3⟩
theorem wdev_zero {k : Nat} {b : Bytes} (h : wcode D (k : Int) b = 0) : wdev D (k : Int) b = ⟨wrote D.bk k b, D.on, spent D.left⟩ := by
  obtain ⟨h1, h2, h3⟩ := wcode_zero h
  unfold wdev
  rw [if_neg (by simp [h1]), if_neg h2, if_neg h3, Int.toNat_natCast]
theorem blk_wrote (t : Nat) (b : Bytes) (ht : fr + t < D.bk.length) (on : Bool) (left : Int) : blkOf ⟨wrote D.bk (fr + t) b, on, left⟩ fr = fun q => if q = t then b else blkOf D fr q := by
  funext q
  unfold blkOf
  simp only [wrote_get]
  by_cases e : q = t
  · subst e
    obtain ⟨x, hx⟩ : ∃ x, D.bk[fr + q]? = some x := ⟨_, List.getElem?_eq_getElem ht⟩
    simp [hx, Bk.stands]
  · rw [if_neg (by omega), if_neg e]
/-- What stands in the blocks behind writes that all went well. -/
theorem blk_writes : ∀ {D : Dv} (l : List (Nat × Bytes)), (writesP fr D l).2 = 0 → blkOf (writesP fr D l).1 fr = ovr (blkOf D fr) l ∧ (l ≠ [] → D.on = true) ∧ ((writesP fr D l).1.on = D.on)
  | D, [], _ => ⟨rfl, fun h => absurd rfl h, rfl⟩
  | D, (t, b) :: r, h => by
    unfold writesP at h ⊢
    split at h
    · rename_i h0
      rw [if_pos h0]
      obtain ⟨h1, h2, h3⟩ := wcode_zero h0
      have hw := wdev_zero h0
      obtain ⟨i1, i2, i3⟩ := blk_writes r h
      have hlt : fr + t < D.bk.length := by
        unfold noSuch at h2
        omega
      refine ⟨?_, fun _ => h1, i3.trans ?_⟩
      · rw [i1, hw, blk_wrote t b hlt]
        rfl
      · rw [hw]
    · rename_i h0
      exact absurd h h0
/-- Writes that all go well. -/
theorem writes_well : ∀ {D : Dv} (l : List (Nat × Bytes)), D.on = true → D.left = -1 → (∀ p ∈ l, fr + p.1 < D.bk.length ∧ p.2.length = 512) → (writesP fr D l).2 = 0 ∧ (writesP fr D l).1.on = true ∧ (writesP fr D l).1.left = -1
  | D, [], h1, h2, _ => ⟨rfl, h1, h2⟩
  | D, (t, b) :: r, h1, h2, h3 => by
    have h4 := h3 (t, b) List.mem_cons_self
    have h0 : wcode D ((fr + t : Nat) : Int) b = 0 := by
      unfold wcode
      rw [if_neg (by simp [h1]), if_neg (by unfold noSuch; simp only at h4; omega), if_neg (by omega)]
    have hw := wdev_zero h0
    unfold writesP
    rw [if_pos h0]
    refine writes_well r (by rw [hw]; exact h1) (by rw [hw, h2]; rfl) (fun p hp => ?_)
    rw [hw]
    have h5 := h3 p (List.mem_cons_of_mem _ hp)
    rw [show (wrote D.bk (fr + t) b).length = D.bk.length from wrote_length _ _ _]
    exact h5

/-! ### pages that are dropped -/
theorem rdone_get (l : List Pg) (k q : Nat) : (rdone l (k : Int))[q]? = if q = k then (l[q]?).map (fun x => (x.1, false)) else l[q]? := by
  unfold rdone
  rw [pgAt_nat]
  rcases hk : l[k]? with _ | x
  · simp only
    by_cases e : q = k
    · subst e
      rw [if_pos rfl, hk]
      rfl
    · rw [if_neg e]
  · have hl := (List.getElem?_eq_some_iff.1 hk).1
    simp only [Int.toNat_natCast]
    by_cases e : q = k
    · subst e
      rw [if_pos rfl, hk]
      split
      · rw [List.getElem?_set_self hl]
        rfl
      · rename_i h
        rw [hk]
        obtain ⟨a, b⟩ := x
        have : b = false := by simpa using h
        subst this
        rfl
    · rw [if_neg e]
      split
      · rw [List.getElem?_set_ne (fun h => e h.symm)]
      · rfl
theorem dropsP_get (xs : List Nat) : ∀ (l : List Pg) (q : Nat), (dropsP l xs)[q]? = if q ∈ xs then (l[q]?).map (fun x => (x.1, false)) else l[q]? := by
  induction xs with
  | nil => intro l q; simp [dropsP]
  | cons a r ih =>
    intro l q
    show (dropsP (rdone l (a : Int)) r)[q]? = _
    rw [ih, rdone_get]
    by_cases e : q = a
    · subst e
      rw [if_pos rfl, if_pos List.mem_cons_self]
      split
      · rw [Option.map_map]
        rfl
      · rfl
    · rw [if_neg e]
      by_cases hm : q ∈ r
      · rw [if_pos hm, if_pos (List.mem_cons_of_mem _ hm)]
      · rw [if_neg hm, if_neg (by simp [e, hm])]
/-- With all dropped that was taken the pages are as they were. -/
theorem drops_back {i : Nat} (hf : ∀ j, j < i → leastFree (tdones j ps) ≠ none) : dropsP (tdones i ps) (placeT ps i) = ps := by
  apply List.ext_getElem?
  intro q
  rw [dropsP_get, tdones_get ps i hf]
  by_cases hm : q ∈ placeT ps i
  · rw [if_pos hm, if_pos hm, (placeT_free hf).2 q hm]
    rfl
  · rw [if_neg hm, if_neg hm]

/-- A root that holds just the pages that are taken. -/
structure Hold (D : Dv) (fr : Nat) (ps : List Pg) (root : Int) (prs : List Pr) (pgs : List Nat) : Prop where
  rt : Rt (blkOf D fr) ps.length root prs pgs
  held : ∀ k x, ps[k]? = some x → (x.2 = true ↔ k ∈ pgs)
  nd : pgs.Nodup
theorem Hold.free (h : Hold D fr ps root prs pgs) : ∀ q, ps[q]? = some (false, false) → q ∉ pgs := fun q hq hm => by
  have := (h.held q _ hq).2 hm
  cases this
theorem Rt.lt {B : Nat → Bytes} {N : Nat} (h : Rt B N root prs pgs) : (∀ q ∈ pgs, q < N) ∧ rootB N root = true := by
  rcases h.at_ with ⟨rfl, _, rfl⟩ | ⟨l, k, hs, rfl, _, rfl, _⟩
  · refine ⟨fun q hq => (by cases hq), ?_⟩
    unfold rootB
    simp
    omega
  · obtain ⟨ces, cpg, g1, g2, g3, g4, g5, g6⟩ := hs
    refine ⟨fun q hq => ?_, ?_⟩
    · rw [g4] at hq
      rcases List.mem_cons.1 hq with rfl | h1
      · exact g6
      · exact g3.pages_lt q h1
    · unfold rootB
      simp
      omega
/-- What a change that went well leaves. -/
theorem Hold.done (h : Hold D fr ps root prs pgs) {i : Nat} {BL : List Bytes} {Xs : List Nat} (hf : ∀ j, j < i → leastFree (tdones j ps) ≠ none) (hw : (writesP fr D ((placeT ps i).zip BL)).2 = 0)
    (hr : Rt (ovr (blkOf D fr) ((placeT ps i).zip BL)) ps.length root' prs' pgs') (hp : (pgs ++ placeT ps i).Perm (Xs ++ pgs')) : Hold (writesP fr D ((placeT ps i).zip BL)).1 fr (dropsP (tdones i ps) Xs) root' prs' pgs' := by
  obtain ⟨hnd, hfr⟩ := placeT_free hf
  have hn0 : (pgs ++ placeT ps i).Nodup := List.nodup_append.2 ⟨h.nd, hnd, fun a ha b hb e => h.free a (hfr a (e ▸ hb)) ha⟩
  have hn1 := (List.Perm.nodup_iff hp).1 hn0
  obtain ⟨_, hn2, hdis⟩ := List.nodup_append.1 hn1
  refine ⟨?_, fun k x hx => ?_, hn2⟩
  · rw [(blk_writes _ hw).1, dropsP_length, tdones_length]
    exact hr
  · have hmem := hp.mem_iff (a := k)
    simp only [List.mem_append] at hmem
    rw [dropsP_get, tdones_get ps i hf] at hx
    by_cases hX : k ∈ Xs
    · rw [if_pos hX] at hx
      obtain ⟨y, _, rfl⟩ := Option.map_eq_some_iff.1 hx
      exact ⟨(fun h => by cases h), fun hk => absurd rfl (hdis k hX k hk)⟩
    · rw [if_neg hX] at hx
      by_cases hT : k ∈ placeT ps i
      · rw [if_pos hT] at hx
        cases hx
        exact ⟨fun _ => (hmem.1 (.inr hT)).resolve_left hX, fun _ => rfl⟩
      · rw [if_neg hT] at hx
        rw [h.held k x hx]
        exact ⟨fun hk => (hmem.1 (.inl hk)).resolve_left hX, fun hk => (hmem.2 (.inr hk)).resolve_right hT⟩
/-- The root of no pairs, over pages that are all free. -/
theorem hold_none {n : Nat} : Hold D fr (freshP n) (-1) [] [] := by
  refine ⟨⟨.inl ⟨rfl, rfl, rfl⟩, List.Pairwise.nil⟩, fun k x hx => ?_, List.nodup_nil⟩
  have := List.mem_of_getElem? hx
  unfold freshP at this
  have := List.eq_of_mem_replicate this
  subst this
  simp
end
end Go.Proofs.YtgekeemhbnhelaaGreat
namespace Go.Proofs.YtgekeemhbnhelaaGreat
open Go.RowKit

section
variable {w : World} {tb db pb fr : Nat} {D : Dv} {ps : List Pg} {S F G : Nat → Prop}
/-- A tree. -/
def TNews (w : World) (db pb n : Nat) (e : Ending) (w' : World) : Prop := e = .returned (.tuple #[ptr w.heap.size, err 0]) ∧ Cel w' w.heap.size [ptr db, ptr pb, .int .i64 (n : Nat)] 125 ∧ Below w.heap.size w w'
theorem tnew_ok (hd : Dev w db D F) (hp : Pgs w pb ps G) (n : Nat) (h : n + ps.length ≤ D.bk.length) : Calls Tryz.prog 40 #[ptr db, ptr pb, .int .i64 (n : Int)] w (TNews w db pb n) := by
  have Z := size_any hd
  have P := pgsize_any hp
  have h1 := hd.bks.2
  have h2 := hp.few
  have hwr : IntKind.i64.wrap ((D.bk.length : Int) - (ps.length : Int)) = (D.bk.length : Int) - (ps.length : Int) := IntWalk.i64_in _ (by omega)
  have hb : Below w.heap.size w (w.alloc (.cells #[ptr db, ptr pb, .int .i64 (n : Int)] 125)) := (Below.refl _ _).alloc (Nat.le_refl _) _
  have C := Cel.new w #[ptr db, ptr pb, .int .i64 (n : Int)] 125
  generalize (D.bk.length) = dn at *
  generalize ps.length = pn at *
  have h0 : ¬ (n : Int) < 0 := by omega
  have h5 : ¬ (dn : Int) - (pn : Int) < (n : Int) := by omega
  have HH := Lib.hid (And.intro hb C)
  clear hd hp h h1 h2 hb C
  go_enter Tryz.func40, Tryz.ntmps40
  go_wp2_with fail
  refine Z.mono ?_
  rintro e w1 ⟨rfl, rfl⟩
  clear Z
  go_wp2_with fail
  refine P.mono ?_
  rintro e w1 ⟨rfl, rfl⟩
  clear P
  go_wp2
  go_ret2
  exact ⟨rfl, HH.out.2, HH.out.1⟩
/-- Its state: the device, the pages and the tree. -/
theorem tree_at (hd : Dev w db D F) (hp : Pgs w pb ps G) (hfg : ∀ q, F q → ¬ G q) (hfl : ∀ q, F q → q < w.heap.size) (hgl : ∀ q, G q → q < w.heap.size) {w' : World} (hb : Below w.heap.size w w') (hc : Cel w' w.heap.size [ptr db, ptr pb, .int .i64 (fr : Nat)] 125) (hr : fr + ps.length ≤ D.bk.length) :
    TrS w' w.heap.size db pb fr D ps (fun q => F q ∨ G q) :=
  ⟨F, G, hc, hd.below hb, hp.below hb, hfg, fun _ h => .inl h, fun _ h => .inr h, fun q hq => Nat.lt_of_lt_of_le (hq.elim (hfl q) (hgl q)) hb.size, fun hq => Nat.lt_irrefl _ (hq.elim (hfl _) (hgl _)), hr⟩

theorem run_loadVar_one {P : Program} {w : World} {g : Nat} {ty : TypeId} {d : TypeDesc} {v : Value} (hu : P.underlying ty = some d) (hd : (match d with | .struct _ | .array _ _ => true | _ => false) = false) (hc : w.cell? ⟨g, 0, none⟩ = some v) : (loadVar ty ⟨g, 0, none⟩).run P w = .ok v w := by
  have h1 : (isAgg ty).run P w = .ok false w := by
    unfold isAgg
    rw [Sem.run_bind, run_underlying hu w]
    cases d <;> simp_all
  simp [loadVar, Sem.run_bind, h1, go_sem, hc]
/-- Two results that lie in variables of the call. -/
theorem results_cells2 {P : Program} {fn : Func} {p u : Tmp} {t1 t2 : TypeId} {d1 d2 : TypeDesc} {tmps : Array Value} {w : World} {g1 g2 : Nat} {v1 v2 : Value} (h : fn.results = #[.cell p t1, .cell u t2]) (h1 : tmps.getD p undef = .pointer (some ⟨g1, 0, none⟩)) (h2 : tmps.getD u undef = .pointer (some ⟨g2, 0, none⟩))
    (hu1 : P.underlying t1 = some d1) (hd1 : (match d1 with | .struct _ | .array _ _ => true | _ => false) = false) (hu2 : P.underlying t2 = some d2) (hd2 : (match d2 with | .struct _ | .array _ _ => true | _ => false) = false)
    (c1 : w.cell? ⟨g1, 0, none⟩ = some v1) (c2 : w.cell? ⟨g2, 0, none⟩ = some v2) : (results fn tmps).run P w = .ok (.tuple #[v1, v2]) w := by
  have h1' : tmps[p]?.getD undef = .pointer (some ⟨g1, 0, none⟩) := by simpa using h1
  have h2' : tmps[u]?.getD undef = .pointer (some ⟨g2, 0, none⟩) := by simpa using h2
  simp only [results, h]
  simp [h1', h2', asAddr, run_loadVar_one hu1 hd1 c1, run_loadVar_one hu2 hd2 c2]
end
end Go.Proofs.YtgekeemhbnhelaaGreat
