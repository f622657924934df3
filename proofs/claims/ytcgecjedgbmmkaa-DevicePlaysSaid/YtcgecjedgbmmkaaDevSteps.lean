/- The steps that DevicePlays is handed: how they read; whether they are few; any of them by both devices; no condition. -/
import Derived.Test.YtcgecjedgbmmkaaDevDoOn
import Derived.Test.YtcgecjedgbmmkaaDevDoRead
import Derived.Test.YtcgecjedgbmmkaaDevDoWrite
import Derived.Test.YtcgecjedgbmmkaaDevArgs
namespace Go.Proofs.Ytcgecjedgbmmkaa
open Go.RowKit Go.Maps Go.ChangeShapes Go.WideShapes

structure Stp where
  o : Int
  k : Int
  n : Int
  c : UInt8
  la : UInt8
  sh : Bool
  pv : Value
  picks : List Int

abbrev Stp.val (s : Stp) : Value := stepV s.o s.k s.n (s.c.toNat : Int) (s.la.toNat : Int) s.sh s.pv

/-- A slice of steps that reads as these. -/
def Sv (w : World) (v : Value) (ls : List Stp) : Prop :=
  ∃ a cap, v = .slice a ls.length cap ∧ ls.length ≤ 9223372036854775807 ∧ (a = none → ls = []) ∧ ∀ ad, a = some ad → ∀ (i : Nat) (s : Stp), ls[i]? = some s →
    (w.cell? (ad.add (i * 7)) = some (.int .i64 s.o) ∧ w.cell? (ad.add (i * 7 + 1)) = some (.int .i64 s.k) ∧ w.cell? (ad.add (i * 7 + 2)) = some (.int .i64 s.n) ∧ w.cell? (ad.add (i * 7 + 3)) = some (.int .u8 (s.c.toNat : Int)) ∧
     w.cell? (ad.add (i * 7 + 4)) = some (.int .u8 (s.la.toNat : Int)) ∧ w.cell? (ad.add (i * 7 + 5)) = some (.bool s.sh) ∧ w.cell? (ad.add (i * 7 + 6)) = some s.pv) ∧ Iv w s.pv s.picks ∧ s.n ≤ 9223372036854775807

theorem Sv.shape {w : World} {v : Value} {ls : List Stp} (h : Sv w v ls) : ∃ a cap, v = .slice a ls.length cap := let ⟨a, cap, e, _⟩ := h; ⟨a, cap, e⟩
theorem Sv.len {w : World} {v : Value} {ls : List Stp} (h : Sv w v ls) : ls.length ≤ 9223372036854775807 := let ⟨_, _, _, h, _⟩ := h; h
theorem Sv.open {w : World} {v : Value} {ls : List Stp} (h : Sv w v ls) {i : Nat} {s : Stp} (hs : ls[i]? = some s) : ∃ g o cap, v = .slice (some ⟨g, o, none⟩) ls.length cap ∧ g < w.heap.size ∧
    (w.cell? ⟨g, o + i * 7, none⟩ = some (.int .i64 s.o) ∧ w.cell? ⟨g, o + i * 7 + 1, none⟩ = some (.int .i64 s.k) ∧ w.cell? ⟨g, o + i * 7 + 2, none⟩ = some (.int .i64 s.n) ∧ w.cell? ⟨g, o + i * 7 + 3, none⟩ = some (.int .u8 (s.c.toNat : Int)) ∧
     w.cell? ⟨g, o + i * 7 + 4, none⟩ = some (.int .u8 (s.la.toNat : Int)) ∧ w.cell? ⟨g, o + i * 7 + 5, none⟩ = some (.bool s.sh) ∧ w.cell? ⟨g, o + i * 7 + 6, none⟩ = some s.pv) ∧ Iv w s.pv s.picks ∧ s.n ≤ 9223372036854775807 := by
  obtain ⟨a, cap, rfl, h1, h2, h3⟩ := h
  rcases a with _ | ⟨g, o, sp⟩
  · rw [h2 rfl] at hs
    simp at hs
  · obtain ⟨hc, hi, hn⟩ := h3 _ rfl i s hs
    have hlt := (List.getElem?_eq_some_iff.1 hs).1
    have hsp : sp = none := by simpa [Addr.add] using World.cell?_spot (h3 _ rfl 0 ls[0] (List.getElem?_eq_getElem (by omega))).1.1
    subst hsp
    simp only [Addr.add_lit] at hc
    exact ⟨g, o, cap, rfl, World.block_lt_of_cell? w _ hc.1, hc, hi, hn⟩

/-- Are they few? -/
def fewB (ls : List Stp) : Bool := decide (ls.length ≤ 200) && ls.all fun s => decide (s.picks.length ≤ 200)

theorem few_any {w : World} {v : Value} {ls : List Stp} (h : Sv w v ls) : Calls Try.prog 7 #[v] w fun e w' => e = .returned (.bool (fewB ls)) ∧ w = w' := by
  obtain ⟨a, cap, rfl⟩ := h.shape
  have hlen := h.len
  by_cases h2 : ls.length ≤ 200
  · have hd : decide ((200 : Int) < (ls.length : Int)) = false := by simp; omega
    have HH := Lib.hid h
    clear h
    go_enter Try.func7, Try.ntmps7
    go_wp2
    go_loopw [3] (fun i wr => ∃ j : Nat, j ≤ ls.length ∧ i = .int .i64 j ∧ wr = w ∧ ∀ (q : Nat) (s : Stp), q < j → ls[q]? = some s → s.picks.length ≤ 200) (fun i _ => ls.length - (intOf i).toNat)
    case atStart => exact ⟨0, Nat.zero_le _, rfl, rfl, fun q s hq => absurd hq (Nat.not_lt_zero _)⟩
    case round =>
      obtain ⟨j, hj, rfl, rfl, hall⟩ := hrel
      by_cases hlt : j < ls.length
      · obtain ⟨s, hs⟩ : ∃ s, ls[j]? = some s := ⟨_, List.getElem?_eq_getElem hlt⟩
        obtain ⟨g, o, cap', e, hg, hc, hi, hn⟩ := HH.out.open hs
        simp only [Value.slice.injEq, true_and] at e
        obtain ⟨rfl, rfl⟩ := e
        obtain ⟨c0, c1, c2, c3, c4, c5, c6⟩ := hc
        obtain ⟨pa, pc, hp⟩ := hi.shape
        rw [hp] at c6
        have hil : ((j : Int) < (ls.length : Int)) := by omega
        by_cases hp2 : s.picks.length ≤ 200
        · have hd2 : decide ((200 : Int) < (s.picks.length : Int)) = false := by simp; omega
          have hnext : ∀ (q : Nat) (t : Stp), q < j + 1 → ls[q]? = some t → t.picks.length ≤ 200 := fun q t hq ht => by
            by_cases hqj : q = j
            · subst hqj
              rw [hs] at ht
              cases ht
              exact hp2
            · exact hall q t (by omega) ht
          have HN := Lib.hid hnext
          clear hall hnext hs hi hp c0 c1 c2 c3 c4 c5 hp2
          generalize s.picks.length = pl at *
          go_wp2
          go_roundw
          case rel => exact ⟨j + 1, by omega, by go_num, (by first | trivial | rfl), HN.out⟩
          case measure => simp [intOf]; omega
        · have hd2 : ((200 : Int) < (s.picks.length : Int)) := by omega
          have hfin : fewB ls = false := by
            unfold fewB
            rw [Bool.and_eq_false_iff]
            right
            rw [List.all_eq_false]
            exact ⟨s, List.mem_of_getElem? hs, by simpa using hp2⟩
          have HN := Lib.hid hfin
          clear hall hs hi hp c0 c1 c2 c3 c4 c5 hp2 hfin
          generalize s.picks.length = pl at *
          go_wp2
          go_ret
          exact ⟨by rw [HN.out]; rfl, rfl⟩
      · have hfin : fewB ls = true := by
          unfold fewB
          rw [Bool.and_eq_true, List.all_eq_true]
          refine ⟨by simpa using h2, fun s hs => ?_⟩
          obtain ⟨q, hq⟩ := List.getElem?_of_mem hs
          have := (List.getElem?_eq_some_iff.1 hq).1
          simpa using hall q s (by omega) hq
        have HN := Lib.hid hfin
        clear hall hfin
        go_wp2
        go_ret
        exact ⟨by rw [HN.out]; rfl, rfl⟩
  · have hd : ((200 : Int) < (ls.length : Int)) := by omega
    have hfin : fewB ls = false := by
      unfold fewB
      rw [Bool.and_eq_false_iff]
      left
      simpa using h2
    have HN := Lib.hid hfin
    clear h hfin
    go_enter Try.func7, Try.ntmps7
    go_wp2
    go_ret
    exact ⟨by rw [HN.out]; rfl, rfl⟩

section
variable {w0 w : World} {b r : Nat} {D : Dv} {F G : Nat → Prop} {n : Nat}

theorem do_read_any (h : Two w0 w b r D D F G) (hu : Upto D n) (k m c la : Int) (sh : Bool) (pv : Value) : Calls Try.prog 11 #[ptr b, ptr r, stepV 3 k m c la sh pv] w (Does w0 b r D n) := by
  by_cases hb : D.on = false ∨ k < 0 ∨ (D.bk.length : Int) ≤ k
  · exact do_read_bad h hu hb
  · have h1 : D.on = true := by
      cases ho : D.on
      · exact absurd (.inl ho) hb
      · rfl
    have h2 : ¬ k < 0 := fun e => hb (.inr (.inl e))
    have h3 : ¬ (D.bk.length : Int) ≤ k := fun e => hb (.inr (.inr e))
    obtain ⟨j, rfl⟩ : ∃ j : Nat, k = j := ⟨k.toNat, by omega⟩
    exact do_read_ok h hu (List.getElem?_eq_getElem (by omega)) h1

theorem do_any (h : Two w0 w b r D D F G) (hu : Upto D n) (hn : n < 1000000) (s : Stp) (hi : Iv w0 s.pv s.picks) (hl : s.picks.length ≤ 200) (hm : s.n ≤ 9223372036854775807) :
    Calls Try.prog 11 #[ptr b, ptr r, s.val] w (Does w0 b r D n) := by
  have hold : s.picks ≠ [] → ∀ q, s.pv.ownBlock = some q → q < w0.heap.size := fun hne q hq => by
    obtain ⟨u, hu⟩ : ∃ u, s.picks[0]? = some u := ⟨_, List.getElem?_eq_getElem (List.length_pos_iff.2 hne)⟩
    obtain ⟨g, o, cap, e, hc, _⟩ := hi.open hu
    rw [e] at hq
    have e' : g = q := Option.some.inj hq
    subst e'
    exact World.block_lt_of_cell? w0 _ hc
  obtain ⟨o, k, m, c, la, sh, pv, picks⟩ := s
  simp only at hi hl hm hold
  show Calls Try.prog 11 #[ptr b, ptr r, stepV o k m (c.toNat : Int) (la.toNat : Int) sh pv] w (Does w0 b r D n)
  by_cases h1 : o = 1
  · subst h1
    cases sh
    · exact do_write_false h hu hn c la
    · exact do_write_true h hu hn c la
  by_cases h2 : o = 2
  · subst h2; exact do_flush h hu hn
  by_cases h3 : o = 3
  · subst h3; exact do_read_any h hu _ _ _ _ _ _
  by_cases h4 : o = 4
  · subst h4; exact do_arm h hu hm
  by_cases h5 : o = 5
  · subst h5; exact do_off h hu
  by_cases h6 : o = 6
  · subst h6
    refine do_on h hu hn (hi.kept fun q hq _ hlt => h.under.block q hlt) hl (fun hne q hq => ?_)
    have := hold hne q hq
    exact ⟨by have := h.under.size; omega, (fun hf => by have := h.fo q hf; omega), fun hf => by have := h.go q hf; omega⟩
  exact do_none h hu h1 h2 h3 h4 h5 h6
end
end Go.Proofs.Ytcgecjedgbmmkaa
