/- The step Read by both devices; conditions: both lie in memory, with the same content. -/
import Derived.Test.YtcgecjedgbmmkaaDevDo
namespace Go.Proofs.Ytcgecjedgbmmkaa
open Go.RowKit Go.Maps

def rcode (D : Dv) : Int := if D.on = false then 8 else 1

section
variable {w0 w : World} {b r : Nat} {D : Dv} {F G : Nat → Prop} {n : Nat} {k m c la : Int} {sh : Bool} {pv : Value}

theorem dread_bad (h : Dev w b D F) (hb : D.on = false ∨ k < 0 ∨ (D.bk.length : Int) ≤ k) : Calls Try.prog 21 #[ptr b, .int .i64 k] w fun e w' => e = .returned (.tuple #[nilSl, err (rcode D)]) ∧ w = w' := by
  unfold rcode
  by_cases ho : D.on = false
  · rw [if_pos ho]; exact read_off h ho k
  · rw [if_neg ho]
    exact read_no h (by simpa using ho) k (hb.resolve_left ho)
theorem rread_bad (h : Ref w r D G) (hb : D.on = false ∨ k < 0 ∨ (D.bk.length : Int) ≤ k) : Calls Try.prog 25 #[ptr r, .int .i64 k] w fun e w' => e = .returned (.tuple #[nilSl, err (rcode D)]) ∧ w = w' := by
  unfold rcode
  by_cases ho : D.on = false
  · rw [if_pos ho]; exact rread_off h ho k
  · rw [if_neg ho]
    exact rread_no h (by simpa using ho) k (hb.resolve_left ho)

set_option maxRecDepth 100000 in
theorem do_read_bad (h : Two w0 w b r D D F G) (hu : Upto D n) (hb : D.on = false ∨ k < 0 ∨ (D.bk.length : Int) ≤ k) : Calls Try.prog 11 #[ptr b, ptr r, stepV 3 k m c la sh pv] w (Does w0 b r D n) := by
  obtain ⟨h1, hc, nF, nG⟩ := boxed_two h 3 k m c la sh pv
  have HU := Lib.hid hu
  have HB := Lib.hid hb
  have k0 := run_string_bs bt (d := 9) Try.underlying9 (boxed w 3 k m c la sh pv) (Bs.nil _)
  clear h hu hb
  go_enter Try.func11, Try.ntmps11
  go_wp2_with fail
  refine (dread_bad h1.dev HB.out).mono ?_
  rintro e w2 ⟨rfl, rfl⟩
  go_wp2_with fail
  refine (rread_bad h1.ref HB.out).mono ?_
  rintro e w2 ⟨rfl, rfl⟩
  go_wp2
  go_loopw [14] (fun i wr => i = .int .i64 0 ∧ wr = boxed w 3 k m c la sh pv) (fun _ _ => 0)
  case atStart => exact ⟨rfl, rfl⟩
  case round =>
    obtain ⟨rfl, rfl⟩ := hrel
    go_wp2_with fail
    refine (dread_bad h1.dev HB.out).mono ?_
    rintro e w2 ⟨rfl, rfl⟩
    go_wp2
    go_ret
    exact ⟨rfl, _, _, _, h1, HU.out.more (by omega), rfl⟩

set_option maxRecDepth 100000 in
set_option maxHeartbeats 1000000 in
theorem do_read_ok (h : Two w0 w b r D D F G) (hu : Upto D n) {k : Nat} {x : Bk} (hx : D.bk[k]? = some x) (ho : D.on = true) : Calls Try.prog 11 #[ptr b, ptr r, stepV 3 k m c la sh pv] w (Does w0 b r D n) := by
  obtain ⟨h1, hc, nF, nG⟩ := boxed_two h 3 k m c la sh pv
  have hl5 := stands_len h.dev hx
  have HU := Lib.hid (And.intro hu (And.intro hx (And.intro ho (And.intro hl5 (And.intro h.dev.fl h.ref.fl)))))
  have hcK : (boxed w 3 k m c la sh pv).cell? ⟨w.heap.size, 1, none⟩ = some (.int .i64 (k : Int)) := by rw [hc.cell]; rfl
  have z1 : (boxed w 3 k m c la sh pv).heap.size = w.heap.size + 1 := by simp
  have HC := Lib.hid (And.intro hc z1)
  clear h hu hx ho hl5 hc z1
  go_enter Try.func11, Try.ntmps11
  go_wp2_with fail
  refine (read_ok h1.dev HU.out.2.2.1 HU.out.2.1).mono ?_
  rintro e w2 ⟨ga, rfl, hca, hga, hb2⟩
  have h2 := h1.later hb2
  have c2 := HC.out.1.below hb2 HC.out.1.lt
  have hcK2 : w2.cell? ⟨w.heap.size, 1, none⟩ = some (.int .i64 (k : Int)) := by rw [c2.cell]; rfl
  clear h1 hcK
  go_wp2_with fail
  refine (rread_ok h2.ref HU.out.2.2.1 HU.out.2.1 (by have := HU.out.2.2.2.1; unfold maxLen; omega)).mono ?_
  rintro e w3 ⟨gb, nb, cb, rfl, hbs, hgb, hb3⟩
  have h3 := h2.later hb3
  have c3 := c2.below hb3 c2.lt
  have hca3 := hca.below hb3 hca.lt
  have hcK3 : w3.cell? ⟨w.heap.size, 1, none⟩ = some (.int .i64 (k : Int)) := by rw [c3.cell]; rfl
  have s1 := run_string_bs bt (d := 9) Try.underlying9 w3 (Blk.bs ⟨ga, rfl, hca3, HU.out.2.2.2.1⟩)
  have s2 := run_string_bs bt (d := 9) Try.underlying9 w3 hbs
  have hga' : w.heap.size + 1 ≤ ga := by have := HC.out.2; omega
  have hgab : ga ≠ gb := by have := hca.lt; omega
  have H3 := Lib.hid (And.intro h3 (And.intro c3 (And.intro hca3 (And.intro hbs (And.intro hga' hgab)))))
  clear h2 h3 c2 c3 hcK2 hca hca3 hbs hga hgb hb2 hb3 hga' hgab
  generalize hS : x.stands = S at *
  have HS := Lib.hid hS
  clear hS
  go_wp2
  go_loopw [14] (fun i wr => ∃ j : Nat, j ≤ 512 ∧ i = .int .i64 j ∧ (∃ cs : List Value, cs.length = 512 ∧ (∀ (q : Nat) (u : Value), cs[q]? = some u → ∃ z : Int, u = .int .u8 z) ∧ Cel wr ga cs 5) ∧ Only (· = ga) w3 wr) (fun i _ => 512 - (intOf i).toNat)
  case atStart =>
    refine ⟨0, Nat.zero_le _, rfl, ⟨bvs S, ?_, ?_, H3.out.2.2.1⟩, Only.refl _ _⟩
    · rw [bvs_length]; exact HU.out.2.2.2.1
    · intro q u hq
      rw [bvs, List.getElem?_map] at hq
      obtain ⟨z, _, rfl⟩ := Option.map_eq_some_iff.1 hq
      exact ⟨_, rfl⟩
  case round =>
    obtain ⟨j, hj, rfl, ⟨cs, hcl, hcz, hcc⟩, hor⟩ := hrel
    by_cases hlt : j < 512
    · obtain ⟨u, hu⟩ : ∃ u, cs[j]? = some u := ⟨_, List.getElem?_eq_getElem (by omega)⟩
      obtain ⟨z, rfl⟩ := hcz j u hu
      have hcell : wr.cell? ⟨ga, j, none⟩ = some (.int .u8 z) := by rw [hcc.cell, hu]
      have hfr := hcc.frozen j
      have HR := Lib.hid (And.intro hcc (And.intro hor (And.intro hcz hcl)))
      clear hcc hor hcz hcl hu
      go_wp2
      go_roundw
      case rel =>
        refine ⟨j + 1, by omega, by go_num, ⟨cs.set j (.int .u8 _), ?_, ?_, HR.out.1.set j _⟩, HR.out.2.1.setCell (p := ⟨ga, j, none⟩) (.inl rfl) _⟩
        · rw [List.length_set]; exact HR.out.2.2.2
        · intro q u hq
          by_cases hqj : q = j
          · subst hqj
            rw [List.getElem?_set_self (by have := HR.out.2.2.2; omega)] at hq
            cases hq
            exact ⟨_, rfl⟩
          · rw [List.getElem?_set_ne (by omega)] at hq
            exact HR.out.2.2.1 q u hq
      case measure => simp [intOf]; omega
    · obtain rfl : j = 512 := by omega
      have hw := H3.out
      have h4 : Two w0 wr b r D D F G := hw.1.other hor (fun q e => ⟨by have := hw.1.under.size; have := hw.2.2.2.2.1; have := hw.1.dev.fb; have := hw.1.fo _ this; have := HU.out.2.2.2.2.1 _ hw.1.dev.fb; omega, (fun hf => by have := HU.out.2.2.2.2.1 q hf; have := hw.2.2.2.2.1; omega), fun hf => by have := HU.out.2.2.2.2.2 q hf; have := hw.2.2.2.2.1; omega⟩)
      have c4 := hw.2.1.only hor (fun e => by have := hw.2.2.2.2.1; omega)
      have hcK4 : wr.cell? ⟨w.heap.size, 1, none⟩ = some (.int .i64 (k : Int)) := by rw [c4.cell]; rfl
      have hbs4 := hw.2.2.2.1.only hor (fun q e e' => by cases e; exact hw.2.2.2.2.2 e'.symm)
      have HBS := Lib.hid (And.intro hbs4 h4)
      clear hw hcc hor hcz hcl c4 hbs4 s1 s2 hcK3
      go_wp2_with fail
      refine (read_ok h4.dev HU.out.2.2.1 HU.out.2.1).mono ?_
      rintro e w5 ⟨gc, rfl, hcc, hgc, hb5⟩
      have e0 := HS.out
      rw [e0] at hcc
      have s1 := run_string_bs bt (d := 9) Try.underlying9 w5 (Blk.bs ⟨gc, rfl, hcc, HU.out.2.2.2.1⟩)
      have s2 := run_string_bs bt (d := 9) Try.underlying9 w5 (HBS.out.1.below hb5)
      have H5 := Lib.hid (h4.later hb5)
      clear e0 hcc hb5 h4 hgc
      go_wp2
      go_ret
      exact ⟨rfl, _, _, _, H5.out, HU.out.1.more (by omega), rfl⟩
end
end Go.Proofs.Ytcgecjedgbmmkaa
