/- A group of one child, with what the one next to it has: the walk of with; condition: the entries are such as a tree may hold. -/
import Derived.Test.YtgekeemhbnhelaaGreatM04
import Derived.Test.YtgekeemhbnhelaaGreatM02
namespace Go.Proofs.YtgekeemhbnhelaaGreat
open Go.RowKit

abbrev gpv (lv : Value) (f b : Int) : Value := .agg #[lv, .int .i64 f, .int .i64 b]
def withE (j f : Int) (own more : List En) : List En := if j < f then more ++ own else own ++ more
theorem Few.append {a b : List En} (ha : Few a) (hb : Few b) : Few (a ++ b) := fun e he => (List.mem_append.1 he).elim (ha e) (hb e)

/-- What the loads of with find, whatever its own result's block holds. -/
structure WithS (W0 W : World) (z g o : Nat) (lv cev : Value) (f b : Int) (cl : Nat) (ev : Value) : Prop where
  only : Only (fun q => q = z + 2) W0 W
  c0 : W.cell? ⟨z, 0, none⟩ = some lv
  c1 : W.cell? ⟨z, 1, none⟩ = some (.int .i64 f)
  c2 : W.cell? ⟨z, 2, none⟩ = some (.int .i64 b)
  d1 : W.cell? ⟨z + 1, 1, none⟩ = some (.int .i64 (cl : Int))
  d2 : W.cell? ⟨z + 1, 2, none⟩ = some cev
  r2 : W.cell? ⟨g, o + 2, none⟩ = some ev
theorem WithS.go {W0 W W' : World} {z g o : Nat} {lv cev ev : Value} {f b : Int} {cl : Nat} (h : WithS W0 W z g o lv cev f b cl ev) (hz : z + 2 < W0.heap.size) (hg : g < z) (ho : Only (fun q => q = z + 2) W W') : WithS W0 W' z g o lv cev f b cl ev := by
  have hsz := h.only.size
  have hc : ∀ (q i : Nat), q < W0.heap.size → q ≠ z + 2 → W'.cell? ⟨q, i, none⟩ = W.cell? ⟨q, i, none⟩ := fun q i h1 h2 => World.cell?_of_block (ho.block q (by omega) h2)
  exact ⟨h.only.then ho (fun q hq => .inl hq), (hc _ _ (by omega) (by omega)).trans h.c0, (hc _ _ (by omega) (by omega)).trans h.c1, (hc _ _ (by omega) (by omega)).trans h.c2, (hc _ _ (by omega) (by omega)).trans h.d1, (hc _ _ (by omega) (by omega)).trans h.d2, (hc _ _ (by omega) (by omega)).trans h.r2⟩

def Withs (w : World) (S : Nat → Prop) (f b j : Int) (cl : Nat) (own more : List En) (e : Ending) (w' : World) : Prop :=
  ∃ v L, e = .returned (gpv v (if j < f then j else f) (if j < f then b else j + 1)) ∧ Halved cl (withE j f own more) L ∧ Rd kdNd w' S v (L.map (mkN cl)) ∧ Below w.heap.size w w'

set_option maxRecDepth 100000 in
set_option maxHeartbeats 4000000 in
theorem with_any {lv cev ctv : Value} {f b j cp : Int} {cl : Nat} {S : Nat → Prop} {L : List Nd} {a : Nd} {es : List En} (w : World) (h : Rd kdNd w S lv L) (ha : L[0]? = some a) (he : Rd kdEn w S cev es) (hf : Few a.ents) (hfe : Few es) (hn : a.ents.length ≤ 400000) (hne : es.length ≤ 400000)
    (hS : ∀ q, S q → q < w.heap.size) (hj1 : -1 ≤ j) (hj2 : j ≤ 1000000) :
    Calls Tryz.prog 140 #[gpv lv f b, ndv cp (cl : Int) cev ctv, .int .i64 j] w (Withs w S f b j cl a.ents es) := by
  obtain ⟨g, o, cap, ea, ec, ta, tc, rfl, hg, _, _, c2, _, hre, _⟩ := h.nod ha
  rw [Nat.zero_mul, Nat.add_zero] at c2
  have hpos : (0 : Int) < (L.length : Int) := by have := (List.getElem?_eq_some_iff.1 ha).1; omega
  obtain ⟨ln, hln⟩ : ∃ ln, ln = L.length := ⟨_, rfl⟩
  rw [← hln] at hpos
  rw [← hln]
  have hlz : ¬ ln = 0 := by omega
  have hwr : IntKind.i64.wrap (j + 1) = j + 1 := IntWalk.i64_in _ (by omega)
  obtain ⟨ca, cc, rfl, _⟩ := he.shape
  have C1 := Cel.new w #[.slice (some ⟨g, o, none⟩) ln cap, .int .i64 f, .int .i64 b] 176
  obtain ⟨W1, hW1⟩ : ∃ W1, W1 = w.alloc (.cells #[.slice (some ⟨g, o, none⟩) ln cap, .int .i64 f, .int .i64 b] 176) := ⟨_, rfl⟩
  rw [← hW1] at C1
  have z1 : W1.heap.size = w.heap.size + 1 := by rw [hW1]; simp
  have C2 := Cel.new W1 #[.int .i64 cp, .int .i64 (cl : Int), .slice ca es.length cc, ctv] 85
  rw [z1] at C2
  obtain ⟨W2, hW2⟩ : ∃ W2, W2 = W1.alloc (.cells #[.int .i64 cp, .int .i64 (cl : Int), .slice ca es.length cc, ctv] 85) := ⟨_, rfl⟩
  rw [← hW2] at C2
  have z2 : W2.heap.size = w.heap.size + 2 := by rw [hW2]; simp [z1]
  have C3 := Cel.new W2 #[.slice none 0 0, .int .i64 0, .int .i64 0] 176
  rw [z2] at C3
  obtain ⟨W3, hW3⟩ : ∃ W3, W3 = W2.alloc (.cells #[.slice none 0 0, .int .i64 0, .int .i64 0] 176) := ⟨_, rfl⟩
  rw [← hW3] at C3
  have z3 : W3.heap.size = w.heap.size + 3 := by rw [hW3]; simp [z2]
  have b1 : Below w.heap.size w W1 := hW1 ▸ (Below.refl _ _).alloc (Nat.le_refl _) _
  have b2 : Below W1.heap.size W1 W2 := hW2 ▸ (Below.refl _ _).alloc (Nat.le_refl _) _
  have b3 : Below W2.heap.size W2 W3 := hW3 ▸ (Below.refl _ _).alloc (Nat.le_refl _) _
  have b23 := b2.trans (b3.mono b2.size)
  have b13 := b1.trans (b23.mono b1.size)
  have CC1 := C1.below b23 C1.lt
  have CC2 := C2.below b3 C2.lt
  have hws : WithS W3 W3 w.heap.size g o (.slice (some ⟨g, o, none⟩) ln cap) (.slice ca es.length cc) f b cl (.slice ea a.ents.length ec) :=
    ⟨Only.refl _ _, CC1.cell 0, CC1.cell 1, CC1.cell 2, CC2.cell 1, CC2.cell 2, (b13.cell hg).trans c2⟩
  obtain ⟨S2, hS2⟩ : ∃ S2 : Nat → Prop, ∀ q, S2 q ↔ S q ∨ q = w.heap.size + 2 := ⟨_, fun _ => Iff.rfl⟩
  have st3 : Step S w W3 S2 := ⟨(Step.of_below b13 S).only, fun q hq => ((hS2 q).1 hq).elim .inl (fun e => .inr (by omega))⟩
  have hSS : ∀ q, S2 q → q < W3.heap.size := fun q hq => ((hS2 q).1 hq).elim (fun h => by have := hS q h; omega) (fun e => by omega)
  have HS := Lib.hid hS2
  have hre3 := hre.step st3
  have he3 := he.step st3
  have HH := Lib.hid (And.intro hre3 (And.intro he3 (And.intro hf (And.intro hfe (And.intro hn (And.intro hne (And.intro hSS (And.intro b13 (And.intro C3 (And.intro z3 (And.intro hws hg)))))))))))
  clear hS2 hSS h ha he hf hfe hn hne hS hre c2 C1 C2 C3 z1 z2 z3 b1 b2 b3 b23 b13 CC1 CC2 hws st3 hre3 he3 hg hln
  obtain ⟨an, han⟩ : ∃ an, an = a.ents.length := ⟨_, rfl⟩
  obtain ⟨en, hen⟩ : ∃ en, en = es.length := ⟨_, rfl⟩
  rw [← han, ← hen] at HH
  rw [← hen] at hW2
  rw [← hen]
  have HN := Lib.hid (And.intro han hen)
  clear han hen
  by_cases hjf : j < f
  · have hif1 : (if j < f then j else f) = j := if_pos hjf
    have hif2 : (if j < f then b else j + 1) = b := if_pos hjf
    have hwe : withE j f a.ents es = es ++ a.ents := if_pos hjf
    unfold Withs
    rw [hif1, hif2, hwe]
    clear hif1 hif2 hwe
    go_enter Tryz.func140, Tryz.ntmps140
    go_wp2_with fail
    rw [← hW1, ← hW2, ← hW3]
    have HW := Lib.hid (And.intro hW1 (And.intro hW2 hW3))
    clear hW1 hW2 hW3
    have hs0 := HH.out.2.2.2.2.2.2.2.2.2.2.1
    have hS1 : WithS W3 W3.drew w.heap.size g o (.slice (some ⟨g, o, none⟩) ln cap) (.slice ca en cc) f b cl (.slice ea an ec) := ⟨hs0.only.drew, hs0.c0, hs0.c1, hs0.c2, hs0.d1, hs0.d2, hs0.r2⟩
    clear hs0
    have HX := Lib.hid (fun (W : World) (hW : WithS W3 W w.heap.size g o (.slice (some ⟨g, o, none⟩) ln cap) (.slice ca en cc) f b cl (.slice ea an ec)) => And.intro hW.c0 (And.intro hW.c1 (And.intro hW.c2 (And.intro hW.d1 (And.intro hW.d2 hW.r2)))))
    refine region_till 99 (fun W => WithS W3 W w.heap.size g o (.slice (some ⟨g, o, none⟩) ln cap) (.slice ca en cc) f b cl (.slice ea an ec)) (by kernel_rfl) hS1 (fun hS => ?_)
    refine take_till (i := 0) (some 9) (.pointer (some ⟨w.heap.size, 0, none⟩)) rfl rfl (by kernel_rfl) (by kernel_rfl) (by kernel_rfl) (by kernel_rfl) (by decide) (fun _ _ _ h => h) (by rfl) (fun W hW => ?_) hS ?_
    · have hx := HX.out W hW
      clear hW
      go_simp
    simp only [Act.put, List.setIfInBounds_toArray, List.set_cons_zero, List.set_cons_succ]
    refine take_till (i := 1) (some 10) (.slice (some ⟨g, o, none⟩) ln cap) rfl rfl (by kernel_rfl) (by kernel_rfl) (by kernel_rfl) (by kernel_rfl) (by decide) (fun _ _ _ h => h) (by rfl) (fun W hW => ?_) hS ?_
    · have hx := HX.out W hW
      clear hW
      go_simp
    simp only [Act.put, List.setIfInBounds_toArray, List.set_cons_zero, List.set_cons_succ]
    refine take_till (i := 2) (some 11) (.pointer (some ⟨g, o, none⟩)) rfl rfl (by kernel_rfl) (by kernel_rfl) (by kernel_rfl) (by kernel_rfl) (by decide) (fun _ _ _ h => h) (by rfl) (fun W hW => ?_) hS ?_
    · have hx := HX.out W hW
      clear hW
      go_simp
    simp only [Act.put, List.setIfInBounds_toArray, List.set_cons_zero, List.set_cons_succ]
    refine take_till (i := 3) (some 12) (.pointer (some ⟨g, o + 2, none⟩)) rfl rfl (by kernel_rfl) (by kernel_rfl) (by kernel_rfl) (by kernel_rfl) (by decide) (fun _ _ _ h => h) (by rfl) (fun W hW => ?_) hS ?_
    · have hx := HX.out W hW
      clear hW
      go_simp
    simp only [Act.put, List.setIfInBounds_toArray, List.set_cons_zero, List.set_cons_succ]
    refine take_till (i := 4) (some 13) (.slice ea an ec) rfl rfl (by kernel_rfl) (by kernel_rfl) (by kernel_rfl) (by kernel_rfl) (by decide) (fun _ _ _ h => h) (by rfl) (fun W hW => ?_) hS ?_
    · have hx := HX.out W hW
      clear hW
      go_simp
    simp only [Act.put, List.setIfInBounds_toArray, List.set_cons_zero, List.set_cons_succ]
    refine take_till (i := 5) (some 14) (.pointer (some ⟨w.heap.size + 1, 2, none⟩)) rfl rfl (by kernel_rfl) (by kernel_rfl) (by kernel_rfl) (by kernel_rfl) (by decide) (fun _ _ _ h => h) (by rfl) (fun W hW => ?_) hS ?_
    · have hx := HX.out W hW
      clear hW
      go_simp
    simp only [Act.put, List.setIfInBounds_toArray, List.set_cons_zero, List.set_cons_succ]
    refine take_till (i := 6) (some 15) (.slice ca en cc) rfl rfl (by kernel_rfl) (by kernel_rfl) (by kernel_rfl) (by kernel_rfl) (by decide) (fun _ _ _ h => h) (by rfl) (fun W hW => ?_) hS ?_
    · have hx := HX.out W hW
      clear hW
      go_simp
    simp only [Act.put, List.setIfInBounds_toArray, List.set_cons_zero, List.set_cons_succ]
    refine next_till 7 (by kernel_rfl) rfl (fun K hK => ?_)
    go_simp
    refine hK.out _ _ (fun _ => hS) ?_
    clear hK K
    refine next_till 8 (by kernel_rfl) rfl (fun K hK => ?_)
    go_simp
    refine hK.out _ _ (fun _ => hS) ?_
    clear hK K
    refine done_till (by kernel_rfl) ?_ _
    have x1 := hS.c1
    go_wp2_with fail
    clear x1
    have hS2 : WithS W3 W3.drew.drew w.heap.size g o (.slice (some ⟨g, o, none⟩) ln cap) (.slice ca en cc) f b cl (.slice ea an ec) := ⟨hS.only.drew, hS.c0, hS.c1, hS.c2, hS.d1, hS.d2, hS.r2⟩
    clear hS hS1
    refine region_till 99 (fun W => WithS W3 W w.heap.size g o (.slice (some ⟨g, o, none⟩) ln cap) (.slice ca en cc) f b cl (.slice ea an ec)) (by kernel_rfl) hS2 (fun hS => ?_)
    refine take_till (i := 0) (some 20) (.pointer (some ⟨w.heap.size + 1, 1, none⟩)) rfl rfl (by kernel_rfl) (by kernel_rfl) (by kernel_rfl) (by kernel_rfl) (by decide) (fun _ _ _ h => h) (by rfl) (fun W hW => ?_) hS ?_
    · have hx := HX.out W hW
      clear hW
      go_simp
    simp only [Act.put, List.setIfInBounds_toArray, List.set_cons_zero, List.set_cons_succ]
    refine take_till (i := 1) (some 21) (.int .i64 (cl : Int)) rfl rfl (by kernel_rfl) (by kernel_rfl) (by kernel_rfl) (by kernel_rfl) (by decide) (fun _ _ _ h => h) (by rfl) (fun W hW => ?_) hS ?_
    · have hx := HX.out W hW
      clear hW
      go_simp
    simp only [Act.put, List.setIfInBounds_toArray, List.set_cons_zero, List.set_cons_succ]
    refine take_till (i := 2) (some 22) (.slice ca en cc) rfl rfl (by kernel_rfl) (by kernel_rfl) (by kernel_rfl) (by kernel_rfl) (by decide) (fun _ _ _ h => h) (by rfl) (fun W hW => ?_) hS ?_
    · have hx := HX.out W hW
      clear hW
      go_simp
    simp only [Act.put, List.setIfInBounds_toArray, List.set_cons_zero, List.set_cons_succ]
    refine take_till (i := 3) (some 23) (.slice ea an ec) rfl rfl (by kernel_rfl) (by kernel_rfl) (by kernel_rfl) (by kernel_rfl) (by decide) (fun _ _ _ h => h) (by rfl) (fun W hW => ?_) hS ?_
    · have hx := HX.out W hW
      clear hW
      go_simp
    simp only [Act.put, List.setIfInBounds_toArray, List.set_cons_zero, List.set_cons_succ]
    refine take_till (i := 7) (some 27) (.int .i64 j) rfl rfl (by kernel_rfl) (by kernel_rfl) (by kernel_rfl) (by kernel_rfl) (by decide) (fun _ _ _ h => h) (by rfl) (fun W hW => ?_) hS ?_
    · have hx := HX.out W hW
      clear hW
      go_simp
    simp only [Act.put, List.setIfInBounds_toArray, List.set_cons_zero, List.set_cons_succ]
    refine take_till (i := 8) (some 28) (.pointer (some ⟨w.heap.size, 2, none⟩)) rfl rfl (by kernel_rfl) (by kernel_rfl) (by kernel_rfl) (by kernel_rfl) (by decide) (fun _ _ _ h => h) (by rfl) (fun W hW => ?_) hS ?_
    · have hx := HX.out W hW
      clear hW
      go_simp
    simp only [Act.put, List.setIfInBounds_toArray, List.set_cons_zero, List.set_cons_succ]
    refine take_till (i := 9) (some 29) (.int .i64 b) rfl rfl (by kernel_rfl) (by kernel_rfl) (by kernel_rfl) (by kernel_rfl) (by decide) (fun _ _ _ h => h) (by rfl) (fun W hW => ?_) hS ?_
    · have hx := HX.out W hW
      clear hW
      go_simp
    simp only [Act.put, List.setIfInBounds_toArray, List.set_cons_zero, List.set_cons_succ]
    obtain ⟨W4, hW4⟩ : ∃ W4, W4 = W3.drew.drew := ⟨_, rfl⟩
    rw [← hW4]
    rw [← hW4] at hS
    have b34 : Below W3.heap.size W3 W4 := hW4 ▸ (Below.refl _ _).drew.drew
    have b35 : Below W3.heap.size W3 (W4.alloc (.cells #[.slice ca en cc, .slice ea an ec] 83)) := b34.alloc b34.size _
    have hS4 : ∀ q, S2 q → q < W4.heap.size := fun q hq => by have := HH.out.2.2.2.2.2.2.1 q hq; have := b34.size; omega
    have haS : Rd kdEn W4 S2 (.slice ea an ec) a.ents := HH.out.1.step (Step.of_below b34 S2)
    have heS : Rd kdEn W4 S2 (.slice ca en cc) es := HH.out.2.1.step (Step.of_below b34 S2)
    have hlit : Rd kdEs (W4.alloc (.cells #[.slice ca en cc, .slice ea an ec] 83)) S2 (.slice (some ⟨W4.heap.size, 0, none⟩) 2 2) [es, a.ents] :=
      rd_lit kdEs W4 83 S2 hS4 [⟨⟨ca, en, cc⟩, es⟩, ⟨⟨ea, an, ec⟩, a.ents⟩] _ rfl (fun t ht => by rcases List.mem_cons.1 ht with rfl | ht; exact heS; rw [List.mem_singleton] at ht; subst ht; exact haS) (by simp) rfl
    have hlenE : lenE [es, a.ents] ≤ 2147483648 := by have := HH.out.2.2.2.2.1; have := HH.out.2.2.2.2.2.1; have := HN.out.1; have := HN.out.2; simp [lenE]; omega
    have A1 := concat_any _ hlit (fun q hq => by have := hS4 q hq; simp; omega) (by simp) hlenE
    have hs5 := hS.go (W' := W4.alloc (.cells #[.slice ca en cc, .slice ea an ec] 83)) (by have := HH.out.2.2.2.2.2.2.2.2.2.1; omega) HH.out.2.2.2.2.2.2.2.2.2.2.2 ((Only.refl _ _).alloc _)
    have H4 := Lib.hid (And.intro b35 (And.intro hS4 hs5))
    clear b34 b35 hS4 haS heS hlit hlenE hs5 hW4 hS2
    refine next_till 4 (by kernel_rfl) rfl (fun K hK => ?_)
    go_simp
    refine hK.out _ _ (fun _ => H4.out.2.2) ?_
    clear hK K hS
    refine next_till 5 (by kernel_rfl) rfl (fun K hK => ?_)
    go_simp
    refine A1.mono ?_
    rintro e w5 ⟨v1, rfl, hr1, hb1, hv1⟩
    have hs6 := H4.out.2.2.go (by have := HH.out.2.2.2.2.2.2.2.2.2.1; omega) HH.out.2.2.2.2.2.2.2.2.2.2.2 (Only.of_below hb1 _)
    refine hK.out _ _ (fun _ => hs6) ?_
    clear hK K A1
    have hflat : ([es, a.ents] : List (List En)).flatten = es ++ a.ents := by simp
    rw [hflat] at hr1
    have hS5 : ∀ q, S2 q → q < w5.heap.size := fun q hq => by have := H4.out.2.1 q hq; have := hb1.size; simp at this; omega
    have A2 := halved_any (lvl := cl) w5 hr1 (HH.out.2.2.2.1.append HH.out.2.2.1) (by have := HH.out.2.2.2.2.1; have := HH.out.2.2.2.2.2.1; have := HN.out.1; have := HN.out.2; rw [List.length_append]; omega) hS5
    have b36 := H4.out.1.trans (hb1.mono H4.out.1.size)
    have H5 := Lib.hid (And.intro b36 hs6)
    clear hr1 hb1 hv1 hs6 hflat hS5 b36
    refine next_till 6 (by kernel_rfl) rfl (fun K hK => ?_)
    go_simp
    refine A2.mono ?_
    rintro e w6 ⟨v2, L', rfl, hhl, hr2, hb2⟩
    have hs7 := H5.out.2.go (by have := HH.out.2.2.2.2.2.2.2.2.2.1; omega) HH.out.2.2.2.2.2.2.2.2.2.2.2 (Only.of_below hb2 _)
    refine hK.out _ _ (fun _ => hs7) ?_
    clear hK K A2
    obtain ⟨va, vc, rfl, _⟩ := hr2.shape
    rw [List.length_map] at hr2
    rw [List.length_map]
    have b37 := H5.out.1.trans (hb2.mono H5.out.1.size)
    have C7 := HH.out.2.2.2.2.2.2.2.2.1.below b37 (by rw [HH.out.2.2.2.2.2.2.2.2.2.1]; omega)
    have k0 := C7.cell 0
    have k1 := C7.cell 1
    have k2 := C7.cell 2
    have f0 := C7.frozen 0
    have f1 := C7.frozen 1
    have f2 := C7.frozen 2
    have hS := hs7
    have H7S := Lib.hid hs7
    have H7 := Lib.hid (And.intro hhl (And.intro hr2 (And.intro b37 C7)))
    clear hhl hr2 hb2 hs7 b37 C7
    refine take_till (i := 10) (some 30) (gpv (.slice va L'.length vc) j b) rfl rfl (by kernel_rfl) (by kernel_rfl) (by kernel_rfl) (by kernel_rfl) (by decide) (fun _ _ _ h => h) (by rfl) (fun W hW => ?_) hS ?_
    · have hx := HX.out W hW
      clear hW
      go_simp
    simp only [Act.put, List.setIfInBounds_toArray, List.set_cons_zero, List.set_cons_succ]
    refine next_till 11 (by kernel_rfl) rfl (fun K hK => ?_)
    go_simp
    have hs9 := H7S.out.go (W' := ((w6.setCell ⟨w.heap.size + 1 + 1, 0, none⟩ (.slice va L'.length vc)).setCell ⟨w.heap.size + 1 + 1, 1, none⟩ (.int .i64 j)).setCell ⟨w.heap.size + 1 + 1, 2, none⟩ (.int .i64 b)) (by have := HH.out.2.2.2.2.2.2.2.2.2.1; omega) HH.out.2.2.2.2.2.2.2.2.2.2.2 ((((Only.refl (fun q => q = w.heap.size + 2) w6).setCell (p := ⟨w.heap.size + 1 + 1, 0, none⟩) (.inl rfl) _).setCell (p := ⟨w.heap.size + 1 + 1, 1, none⟩) (.inl rfl) _).setCell (p := ⟨w.heap.size + 1 + 1, 2, none⟩) (.inl rfl) _)
    refine hK.out _ _ (fun _ => hs9) ?_
    clear hK K hs9 hS
    refine done_till (by kernel_rfl) ?_ _
    go_wp2
    obtain ⟨hhl, hr2, b37, C7⟩ := H7.out
    have C9 := ((C7.set 0 (.slice va L'.length vc)).set 1 (.int .i64 j)).set 2 (.int .i64 b)
    have st := (((Step.refl S2 w6).set (p := ⟨w.heap.size + 2, 0, none⟩) ((HS.out _).2 (.inr rfl)) (.slice va L'.length vc)).set (p := ⟨w.heap.size + 2, 1, none⟩) ((HS.out _).2 (.inr rfl)) (.int .i64 j)).set (p := ⟨w.heap.size + 2, 2, none⟩) ((HS.out _).2 (.inr rfl)) (.int .i64 b)
    have B0 := HH.out.2.2.2.2.2.2.2.1.trans (b37.mono HH.out.2.2.2.2.2.2.2.1.size)
    have B9 := ((B0.setCell (p := ⟨w.heap.size + 2, 0, none⟩) (by show w.heap.size ≤ w.heap.size + 2; omega) (.slice va L'.length vc)).setCell (p := ⟨w.heap.size + 2, 1, none⟩) (by show w.heap.size ≤ w.heap.size + 2; omega) (.int .i64 j)).setCell (p := ⟨w.heap.size + 2, 2, none⟩) (by show w.heap.size ≤ w.heap.size + 2; omega) (.int .i64 b)
    have hr9 := (hr2.step st).less (fun q h => (HS.out q).2 (.inl h) : ∀ q, S q → S2 q)
    exact bodyPost_ret (results_cell1 (g := w.heap.size + 1 + 1) rfl rfl C9 Tryz.underlying176 rfl (by kernel_rfl)) rfl ⟨_, L', rfl, hhl, hr9, B9⟩
  · have hif1 : (if j < f then j else f) = f := if_neg hjf
    have hif2 : (if j < f then b else j + 1) = j + 1 := if_neg hjf
    have hwe : withE j f a.ents es = a.ents ++ es := if_neg hjf
    unfold Withs
    rw [hif1, hif2, hwe]
    clear hif1 hif2 hwe
    go_enter Tryz.func140, Tryz.ntmps140
    go_wp2_with fail
    rw [← hW1, ← hW2, ← hW3]
    have HW := Lib.hid (And.intro hW1 (And.intro hW2 hW3))
    clear hW1 hW2 hW3
    have hs0 := HH.out.2.2.2.2.2.2.2.2.2.2.1
    have hS1 : WithS W3 W3.drew w.heap.size g o (.slice (some ⟨g, o, none⟩) ln cap) (.slice ca en cc) f b cl (.slice ea an ec) := ⟨hs0.only.drew, hs0.c0, hs0.c1, hs0.c2, hs0.d1, hs0.d2, hs0.r2⟩
    clear hs0
    have HX := Lib.hid (fun (W : World) (hW : WithS W3 W w.heap.size g o (.slice (some ⟨g, o, none⟩) ln cap) (.slice ca en cc) f b cl (.slice ea an ec)) => And.intro hW.c0 (And.intro hW.c1 (And.intro hW.c2 (And.intro hW.d1 (And.intro hW.d2 hW.r2)))))
    refine region_till 99 (fun W => WithS W3 W w.heap.size g o (.slice (some ⟨g, o, none⟩) ln cap) (.slice ca en cc) f b cl (.slice ea an ec)) (by kernel_rfl) hS1 (fun hS => ?_)
    refine take_till (i := 0) (some 9) (.pointer (some ⟨w.heap.size, 0, none⟩)) rfl rfl (by kernel_rfl) (by kernel_rfl) (by kernel_rfl) (by kernel_rfl) (by decide) (fun _ _ _ h => h) (by rfl) (fun W hW => ?_) hS ?_
    · have hx := HX.out W hW
      clear hW
      go_simp
    simp only [Act.put, List.setIfInBounds_toArray, List.set_cons_zero, List.set_cons_succ]
    refine take_till (i := 1) (some 10) (.slice (some ⟨g, o, none⟩) ln cap) rfl rfl (by kernel_rfl) (by kernel_rfl) (by kernel_rfl) (by kernel_rfl) (by decide) (fun _ _ _ h => h) (by rfl) (fun W hW => ?_) hS ?_
    · have hx := HX.out W hW
      clear hW
      go_simp
    simp only [Act.put, List.setIfInBounds_toArray, List.set_cons_zero, List.set_cons_succ]
    refine take_till (i := 2) (some 11) (.pointer (some ⟨g, o, none⟩)) rfl rfl (by kernel_rfl) (by kernel_rfl) (by kernel_rfl) (by kernel_rfl) (by decide) (fun _ _ _ h => h) (by rfl) (fun W hW => ?_) hS ?_
    · have hx := HX.out W hW
      clear hW
      go_simp
    simp only [Act.put, List.setIfInBounds_toArray, List.set_cons_zero, List.set_cons_succ]
    refine take_till (i := 3) (some 12) (.pointer (some ⟨g, o + 2, none⟩)) rfl rfl (by kernel_rfl) (by kernel_rfl) (by kernel_rfl) (by kernel_rfl) (by decide) (fun _ _ _ h => h) (by rfl) (fun W hW => ?_) hS ?_
    · have hx := HX.out W hW
      clear hW
      go_simp
    simp only [Act.put, List.setIfInBounds_toArray, List.set_cons_zero, List.set_cons_succ]
    refine take_till (i := 4) (some 13) (.slice ea an ec) rfl rfl (by kernel_rfl) (by kernel_rfl) (by kernel_rfl) (by kernel_rfl) (by decide) (fun _ _ _ h => h) (by rfl) (fun W hW => ?_) hS ?_
    · have hx := HX.out W hW
      clear hW
      go_simp
    simp only [Act.put, List.setIfInBounds_toArray, List.set_cons_zero, List.set_cons_succ]
    refine take_till (i := 5) (some 14) (.pointer (some ⟨w.heap.size + 1, 2, none⟩)) rfl rfl (by kernel_rfl) (by kernel_rfl) (by kernel_rfl) (by kernel_rfl) (by decide) (fun _ _ _ h => h) (by rfl) (fun W hW => ?_) hS ?_
    · have hx := HX.out W hW
      clear hW
      go_simp
    simp only [Act.put, List.setIfInBounds_toArray, List.set_cons_zero, List.set_cons_succ]
    refine take_till (i := 6) (some 15) (.slice ca en cc) rfl rfl (by kernel_rfl) (by kernel_rfl) (by kernel_rfl) (by kernel_rfl) (by decide) (fun _ _ _ h => h) (by rfl) (fun W hW => ?_) hS ?_
    · have hx := HX.out W hW
      clear hW
      go_simp
    simp only [Act.put, List.setIfInBounds_toArray, List.set_cons_zero, List.set_cons_succ]
    refine next_till 7 (by kernel_rfl) rfl (fun K hK => ?_)
    go_simp
    refine hK.out _ _ (fun _ => hS) ?_
    clear hK K
    refine next_till 8 (by kernel_rfl) rfl (fun K hK => ?_)
    go_simp
    refine hK.out _ _ (fun _ => hS) ?_
    clear hK K
    refine done_till (by kernel_rfl) ?_ _
    have x1 := hS.c1
    go_wp2_with fail
    clear x1
    have hS2 : WithS W3 W3.drew.drew w.heap.size g o (.slice (some ⟨g, o, none⟩) ln cap) (.slice ca en cc) f b cl (.slice ea an ec) := ⟨hS.only.drew, hS.c0, hS.c1, hS.c2, hS.d1, hS.d2, hS.r2⟩
    clear hS hS1
    refine region_till 99 (fun W => WithS W3 W w.heap.size g o (.slice (some ⟨g, o, none⟩) ln cap) (.slice ca en cc) f b cl (.slice ea an ec)) (by kernel_rfl) hS2 (fun hS => ?_)
    refine take_till (i := 0) (some 31) (.pointer (some ⟨w.heap.size + 1, 1, none⟩)) rfl rfl (by kernel_rfl) (by kernel_rfl) (by kernel_rfl) (by kernel_rfl) (by decide) (fun _ _ _ h => h) (by rfl) (fun W hW => ?_) hS ?_
    · have hx := HX.out W hW
      clear hW
      go_simp
    simp only [Act.put, List.setIfInBounds_toArray, List.set_cons_zero, List.set_cons_succ]
    refine take_till (i := 1) (some 32) (.int .i64 (cl : Int)) rfl rfl (by kernel_rfl) (by kernel_rfl) (by kernel_rfl) (by kernel_rfl) (by decide) (fun _ _ _ h => h) (by rfl) (fun W hW => ?_) hS ?_
    · have hx := HX.out W hW
      clear hW
      go_simp
    simp only [Act.put, List.setIfInBounds_toArray, List.set_cons_zero, List.set_cons_succ]
    refine take_till (i := 2) (some 33) (.slice ea an ec) rfl rfl (by kernel_rfl) (by kernel_rfl) (by kernel_rfl) (by kernel_rfl) (by decide) (fun _ _ _ h => h) (by rfl) (fun W hW => ?_) hS ?_
    · have hx := HX.out W hW
      clear hW
      go_simp
    simp only [Act.put, List.setIfInBounds_toArray, List.set_cons_zero, List.set_cons_succ]
    refine take_till (i := 3) (some 34) (.slice ca en cc) rfl rfl (by kernel_rfl) (by kernel_rfl) (by kernel_rfl) (by kernel_rfl) (by decide) (fun _ _ _ h => h) (by rfl) (fun W hW => ?_) hS ?_
    · have hx := HX.out W hW
      clear hW
      go_simp
    simp only [Act.put, List.setIfInBounds_toArray, List.set_cons_zero, List.set_cons_succ]
    refine take_till (i := 7) (some 38) (.pointer (some ⟨w.heap.size, 1, none⟩)) rfl rfl (by kernel_rfl) (by kernel_rfl) (by kernel_rfl) (by kernel_rfl) (by decide) (fun _ _ _ h => h) (by rfl) (fun W hW => ?_) hS ?_
    · have hx := HX.out W hW
      clear hW
      go_simp
    simp only [Act.put, List.setIfInBounds_toArray, List.set_cons_zero, List.set_cons_succ]
    refine take_till (i := 8) (some 39) (.int .i64 f) rfl rfl (by kernel_rfl) (by kernel_rfl) (by kernel_rfl) (by kernel_rfl) (by decide) (fun _ _ _ h => h) (by rfl) (fun W hW => ?_) hS ?_
    · have hx := HX.out W hW
      clear hW
      go_simp
    simp only [Act.put, List.setIfInBounds_toArray, List.set_cons_zero, List.set_cons_succ]
    refine take_till (i := 9) (some 40) (.int .i64 j) rfl rfl (by kernel_rfl) (by kernel_rfl) (by kernel_rfl) (by kernel_rfl) (by decide) (fun _ _ _ h => h) (by rfl) (fun W hW => ?_) hS ?_
    · have hx := HX.out W hW
      clear hW
      go_simp
    simp only [Act.put, List.setIfInBounds_toArray, List.set_cons_zero, List.set_cons_succ]
    refine take_till (i := 10) (some 41) (.int .i64 (j + 1)) rfl rfl (by kernel_rfl) (by kernel_rfl) (by kernel_rfl) (by kernel_rfl) (by decide) (fun _ _ _ h => h) (by rfl) (fun W hW => ?_) hS ?_
    · have hx := HX.out W hW
      clear hW
      go_simp
    simp only [Act.put, List.setIfInBounds_toArray, List.set_cons_zero, List.set_cons_succ]
    obtain ⟨W4, hW4⟩ : ∃ W4, W4 = W3.drew.drew := ⟨_, rfl⟩
    rw [← hW4]
    rw [← hW4] at hS
    have b34 : Below W3.heap.size W3 W4 := hW4 ▸ (Below.refl _ _).drew.drew
    have b35 : Below W3.heap.size W3 (W4.alloc (.cells #[.slice ea an ec, .slice ca en cc] 83)) := b34.alloc b34.size _
    have hS4 : ∀ q, S2 q → q < W4.heap.size := fun q hq => by have := HH.out.2.2.2.2.2.2.1 q hq; have := b34.size; omega
    have haS : Rd kdEn W4 S2 (.slice ea an ec) a.ents := HH.out.1.step (Step.of_below b34 S2)
    have heS : Rd kdEn W4 S2 (.slice ca en cc) es := HH.out.2.1.step (Step.of_below b34 S2)
    have hlit : Rd kdEs (W4.alloc (.cells #[.slice ea an ec, .slice ca en cc] 83)) S2 (.slice (some ⟨W4.heap.size, 0, none⟩) 2 2) [a.ents, es] :=
      rd_lit kdEs W4 83 S2 hS4 [⟨⟨ea, an, ec⟩, a.ents⟩, ⟨⟨ca, en, cc⟩, es⟩] _ rfl (fun t ht => by rcases List.mem_cons.1 ht with rfl | ht; exact haS; rw [List.mem_singleton] at ht; subst ht; exact heS) (by simp) rfl
    have hlenE : lenE [a.ents, es] ≤ 2147483648 := by have := HH.out.2.2.2.2.1; have := HH.out.2.2.2.2.2.1; have := HN.out.1; have := HN.out.2; simp [lenE]; omega
    have A1 := concat_any _ hlit (fun q hq => by have := hS4 q hq; simp; omega) (by simp) hlenE
    have hs5 := hS.go (W' := W4.alloc (.cells #[.slice ea an ec, .slice ca en cc] 83)) (by have := HH.out.2.2.2.2.2.2.2.2.2.1; omega) HH.out.2.2.2.2.2.2.2.2.2.2.2 ((Only.refl _ _).alloc _)
    have H4 := Lib.hid (And.intro b35 (And.intro hS4 hs5))
    clear b34 b35 hS4 haS heS hlit hlenE hs5 hW4 hS2
    refine next_till 4 (by kernel_rfl) rfl (fun K hK => ?_)
    go_simp
    refine hK.out _ _ (fun _ => H4.out.2.2) ?_
    clear hK K hS
    refine next_till 5 (by kernel_rfl) rfl (fun K hK => ?_)
    go_simp
    refine A1.mono ?_
    rintro e w5 ⟨v1, rfl, hr1, hb1, hv1⟩
    have hs6 := H4.out.2.2.go (by have := HH.out.2.2.2.2.2.2.2.2.2.1; omega) HH.out.2.2.2.2.2.2.2.2.2.2.2 (Only.of_below hb1 _)
    refine hK.out _ _ (fun _ => hs6) ?_
    clear hK K A1
    have hflat : ([a.ents, es] : List (List En)).flatten = a.ents ++ es := by simp
    rw [hflat] at hr1
    have hS5 : ∀ q, S2 q → q < w5.heap.size := fun q hq => by have := H4.out.2.1 q hq; have := hb1.size; simp at this; omega
    have A2 := halved_any (lvl := cl) w5 hr1 (HH.out.2.2.1.append HH.out.2.2.2.1) (by have := HH.out.2.2.2.2.1; have := HH.out.2.2.2.2.2.1; have := HN.out.1; have := HN.out.2; rw [List.length_append]; omega) hS5
    have b36 := H4.out.1.trans (hb1.mono H4.out.1.size)
    have H5 := Lib.hid (And.intro b36 hs6)
    clear hr1 hb1 hv1 hs6 hflat hS5 b36
    refine next_till 6 (by kernel_rfl) rfl (fun K hK => ?_)
    go_simp
    refine A2.mono ?_
    rintro e w6 ⟨v2, L', rfl, hhl, hr2, hb2⟩
    have hs7 := H5.out.2.go (by have := HH.out.2.2.2.2.2.2.2.2.2.1; omega) HH.out.2.2.2.2.2.2.2.2.2.2.2 (Only.of_below hb2 _)
    refine hK.out _ _ (fun _ => hs7) ?_
    clear hK K A2
    obtain ⟨va, vc, rfl, _⟩ := hr2.shape
    rw [List.length_map] at hr2
    rw [List.length_map]
    have b37 := H5.out.1.trans (hb2.mono H5.out.1.size)
    have C7 := HH.out.2.2.2.2.2.2.2.2.1.below b37 (by rw [HH.out.2.2.2.2.2.2.2.2.2.1]; omega)
    have k0 := C7.cell 0
    have k1 := C7.cell 1
    have k2 := C7.cell 2
    have f0 := C7.frozen 0
    have f1 := C7.frozen 1
    have f2 := C7.frozen 2
    have hS := hs7
    have H7S := Lib.hid hs7
    have H7 := Lib.hid (And.intro hhl (And.intro hr2 (And.intro b37 C7)))
    clear hhl hr2 hb2 hs7 b37 C7
    refine take_till (i := 11) (some 42) (gpv (.slice va L'.length vc) f (j + 1)) rfl rfl (by kernel_rfl) (by kernel_rfl) (by kernel_rfl) (by kernel_rfl) (by decide) (fun _ _ _ h => h) (by rfl) (fun W hW => ?_) hS ?_
    · have hx := HX.out W hW
      clear hW
      go_simp
    simp only [Act.put, List.setIfInBounds_toArray, List.set_cons_zero, List.set_cons_succ]
    refine next_till 12 (by kernel_rfl) rfl (fun K hK => ?_)
    go_simp
    have hs9 := H7S.out.go (W' := ((w6.setCell ⟨w.heap.size + 1 + 1, 0, none⟩ (.slice va L'.length vc)).setCell ⟨w.heap.size + 1 + 1, 1, none⟩ (.int .i64 f)).setCell ⟨w.heap.size + 1 + 1, 2, none⟩ (.int .i64 (j + 1))) (by have := HH.out.2.2.2.2.2.2.2.2.2.1; omega) HH.out.2.2.2.2.2.2.2.2.2.2.2 ((((Only.refl (fun q => q = w.heap.size + 2) w6).setCell (p := ⟨w.heap.size + 1 + 1, 0, none⟩) (.inl rfl) _).setCell (p := ⟨w.heap.size + 1 + 1, 1, none⟩) (.inl rfl) _).setCell (p := ⟨w.heap.size + 1 + 1, 2, none⟩) (.inl rfl) _)
    refine hK.out _ _ (fun _ => hs9) ?_
    clear hK K hs9 hS
    refine done_till (by kernel_rfl) ?_ _
    go_wp2
    obtain ⟨hhl, hr2, b37, C7⟩ := H7.out
    have C9 := ((C7.set 0 (.slice va L'.length vc)).set 1 (.int .i64 f)).set 2 (.int .i64 (j + 1))
    have st := (((Step.refl S2 w6).set (p := ⟨w.heap.size + 2, 0, none⟩) ((HS.out _).2 (.inr rfl)) (.slice va L'.length vc)).set (p := ⟨w.heap.size + 2, 1, none⟩) ((HS.out _).2 (.inr rfl)) (.int .i64 f)).set (p := ⟨w.heap.size + 2, 2, none⟩) ((HS.out _).2 (.inr rfl)) (.int .i64 (j + 1))
    have B0 := HH.out.2.2.2.2.2.2.2.1.trans (b37.mono HH.out.2.2.2.2.2.2.2.1.size)
    have B9 := ((B0.setCell (p := ⟨w.heap.size + 2, 0, none⟩) (by show w.heap.size ≤ w.heap.size + 2; omega) (.slice va L'.length vc)).setCell (p := ⟨w.heap.size + 2, 1, none⟩) (by show w.heap.size ≤ w.heap.size + 2; omega) (.int .i64 f)).setCell (p := ⟨w.heap.size + 2, 2, none⟩) (by show w.heap.size ≤ w.heap.size + 2; omega) (.int .i64 (j + 1))
    have hr9 := (hr2.step st).less (fun q h => (HS.out q).2 (.inl h) : ∀ q, S q → S2 q)
    exact bodyPost_ret (results_cell1 (g := w.heap.size + 1 + 1) rfl rfl C9 Tryz.underlying176 rfl (by kernel_rfl)) rfl ⟨_, L', rfl, hhl, hr9, B9⟩
end Go.Proofs.YtgekeemhbnhelaaGreat
