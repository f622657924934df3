/- DevicePlays where no steps are gone through; what both devices do in a step; no condition. -/
import Derived.Test.YtcgecjedgbmmkaaDevStepArgs
import Derived.Test.YtcgecjedgbmmkaaDevWorks
namespace Go.Proofs.Ytcgecjedgbmmkaa
open Go.RowKit Go.Maps Go.ChangeShapes Go.WideShapes

theorem AnyTill.mono {P : Program} {md : Region.Mode} {ops : Array Oper} {Q : Exit → Act → World → Prop} {S S' : World → Prop} {t : Nat} (hS : ∀ w, S' w → S w) : ∀ (n : Nat) (listed : Array Bool) (a : Act) (w : World), AnyTill P md ops Q S' t n listed a w → AnyTill P md ops Q S t n listed a w
  | 0, _, _, _, h => h
  | n + 1, _, _, _, h => ⟨h.1, fun i hi => wpOp_mono (fun a' w' hh => ⟨fun e => hS _ (hh.1 e), AnyTill.mono hS n _ a' w' hh.2⟩) (h.2 i hi)⟩

/-- Both have gone through i steps. -/
def Gone (w0 : World) (b r nb i : Nat) (w : World) : Prop := ∃ D F G, Two w0 w b r D D F G ∧ Upto D i ∧ D.bk.length = nb

theorem Does.gone {w0 w' : World} {b r n nb : Nat} {D : Dv} {e : Ending} (h : Does w0 b r D n e w') (hn : D.bk.length = nb) : e = .returned (.bool true) ∧ Gone w0 b r nb (n + 1) w' := by
  obtain ⟨he, D', F', G', h1, h2, h3⟩ := h
  exact ⟨he, D', F', G', h1, h2, h3.trans hn⟩

section
variable {w0 w : World} {b r nb i : Nat}

theorem Gone.under (h : Gone w0 b r nb i w) : Below w0.heap.size w0 w := let ⟨_, _, _, h, _⟩ := h; h.under
theorem Gone.drew (h : Gone w0 b r nb i w) : Gone w0 b r nb i w.drew := let ⟨D, F, G, h, h2, h3⟩ := h; ⟨D, F, G, h.later ⟨rfl, rfl, rfl, Nat.le_refl _, fun _ _ => rfl⟩, h2, h3⟩

theorem g_do (h : Gone w0 b r nb i w) (hi : i < 1000000) (s : Stp) (hv : Iv w0 s.pv s.picks) (hl : s.picks.length ≤ 200) (hm : s.n ≤ 9223372036854775807) :
    Calls Try.prog 11 #[ptr b, ptr r, s.val] w fun e w' => e = .returned (.bool true) ∧ Gone w0 b r nb (i + 1) w' := by
  obtain ⟨D, F, G, h, hu, hn⟩ := h
  exact (do_any h hu hi s hv hl hm).mono fun e w' hh => hh.gone hn

theorem g_read (h : Gone w0 b r nb i w) (k : Int) : Calls Try.prog 11 #[ptr b, ptr r, stepV 3 k 0 0 0 false nilSl] w fun e w' => e = .returned (.bool true) ∧ Gone w0 b r nb (i + 1) w' := by
  obtain ⟨D, F, G, h, hu, hn⟩ := h
  exact (do_read_any h hu k 0 0 0 false nilSl).mono fun e w' hh => hh.gone hn

/-- Both are on, or off. -/
theorem g_on (h : Gone w0 b r nb i w) : ∃ on : Bool, (∀ W, W.heap = w.heap → Calls Try.prog 12 #[ptr b] W fun e w' => e = .returned (.bool on) ∧ W = w') ∧ w.cell? ⟨r, 2, none⟩ = some (.bool on) := by
  obtain ⟨D, F, G, h, hu, hn⟩ := h
  refine ⟨D.on, fun W hW => power_any (h.dev.kept (fun q _ => by rw [hW]) (by rw [hW]; exact Nat.le_refl _)), ?_⟩
  obtain ⟨g, cap, cur, lv, hr⟩ := h.ref
  exact hr.top.2.2.1

theorem g_size (h : Gone w0 b r nb i w) : Calls Try.prog 13 #[ptr b] w fun e w' => e = .returned (.int .i64 (nb : Nat)) ∧ w = w' := by
  obtain ⟨D, F, G, h, hu, hn⟩ := h
  rw [← hn]
  exact size_any h.dev

/-- Both are made. -/
theorem g_new (w : World) (n : Nat) (h1 : 1 ≤ n) (h2 : n ≤ 4096) : Calls Try.prog 9 #[.int .i64 (n : Int)] w fun e w1 => ∃ b, e = .returned (.tuple #[ptr b, err 0]) ∧ Below w.heap.size w w1 ∧
    Calls Try.prog 10 #[.int .i64 (n : Int)] w1 fun e w2 => ∃ r, e = .returned (.tuple #[ptr r, err 0]) ∧ Gone w b r n 0 w2 := by
  refine (new_ok n w h1 h2).mono ?_
  rintro e w1 ⟨b, rfl, hd, hb⟩
  refine ⟨b, rfl, hb, (rnew_ok n w1 h1 h2).mono ?_⟩
  rintro e w2 ⟨r, rfl, hr, hb2⟩
  have hz := hb.size
  refine ⟨r, rfl, fresh n, _, _, { dev := hd.below hb2, ref := hr, fo := fun q hq => hq.1, go := fun q hq => by have := hq.1; omega, apart := fun q hf hg => by have := hf.2; have := hg.1; omega, under := hb.trans (hb2.mono hz) }, fun k x hx => ?_, List.length_replicate⟩
  obtain ⟨rfl, _⟩ := fresh_get hx
  exact Nat.le_refl _
end

set_option maxRecDepth 100000 in
set_option maxHeartbeats 2000000 in
theorem plays_edges {v : Value} {ls : List Stp} (nbl : Int) (w : World) (hv : Sv w v ls) (hok : ¬ (fewB ls = true ∧ 1 ≤ nbl ∧ nbl ≤ 40)) : Calls Try.prog 3 #[.int .i64 nbl, v] w (Yes w) := by
  obtain ⟨a, cap, rfl⟩ := hv.shape
  have hfew := few_any hv
  by_cases hf : fewB ls = false
  · rw [hf] at hfew
    clear hf hv
    go_enter Try.func3, Try.ntmps3
    go_wp2_with fail
    refine hfew.mono ?_
    rintro e w1 ⟨rfl, rfl⟩
    go_wp2_with fail
    refine (works_any _).mono ?_
    rintro e w1 ⟨rfl, hb⟩
    go_wp2
    go_ret
    exact ⟨rfl, hb⟩
  have hf' : fewB ls = true := by simpa using hf
  rw [hf'] at hfew
  by_cases hbig : 40 < nbl ∧ nbl ≤ 4096
  · obtain ⟨hb1, hb2⟩ := hbig
    clear hf hf' hv
    go_enter Try.func3, Try.ntmps3
    go_wp2_with fail
    refine hfew.mono ?_
    rintro e w1 ⟨rfl, rfl⟩
    go_wp2_with fail
    refine (works_any _).mono ?_
    rintro e w1 ⟨rfl, hb⟩
    go_wp2
    go_ret
    exact ⟨rfl, hb⟩
  by_cases hno : nbl < 1 ∨ 4096 < nbl
  · have hnew := fun W => new_no nbl W hno
    have hrnew := fun W => rnew_no nbl W hno
    have HN := Lib.hid (And.intro hnew hrnew)
    by_cases h0 : nbl < 1
    · have h40 : decide ((40 : Int) < nbl) = false := by simp; omega
      clear hf hf' hv hbig hno hnew hrnew
      go_enter Try.func3, Try.ntmps3
      go_wp2_with fail
      refine hfew.mono ?_
      rintro e w1 ⟨rfl, rfl⟩
      go_wp2_with fail
      refine (HN.out.1 _).mono ?_
      rintro e w1 ⟨rfl, rfl⟩
      go_wp2_with fail
      refine (HN.out.2 _).mono ?_
      rintro e w1 ⟨rfl, rfl⟩
      go_wp2_with fail
      refine (works_any _).mono ?_
      rintro e w1 ⟨rfl, hb⟩
      go_wp2
      go_ret
      exact ⟨rfl, hb⟩
    · have h40 : (40 : Int) < nbl := by omega
      have h41 : decide (nbl ≤ 4096) = false := by simp; omega
      clear hf hf' hv hbig hno hnew hrnew
      go_enter Try.func3, Try.ntmps3
      go_wp2_with fail
      refine hfew.mono ?_
      rintro e w1 ⟨rfl, rfl⟩
      go_wp2_with fail
      refine (HN.out.1 _).mono ?_
      rintro e w1 ⟨rfl, rfl⟩
      go_wp2_with fail
      refine (HN.out.2 _).mono ?_
      rintro e w1 ⟨rfl, rfl⟩
      go_wp2_with fail
      refine (works_any _).mono ?_
      rintro e w1 ⟨rfl, hb⟩
      go_wp2
      go_ret
      exact ⟨rfl, hb⟩
  exact absurd ⟨hf', by omega, by omega⟩ hok
end Go.Proofs.Ytcgecjedgbmmkaa
