/- A step that a statement does, put or cut, at a desk of one's own; condition: enough pages are free. · A desk of one's own on which a tree is built; condition: it has no root yet, and pages enough. -/
import Derived.Test.YtgekeemhbnhelaaGreatM43
import Derived.Test.YtgekeemhbnhelaaGreatM54
namespace Go.Proofs.YtgekeemhbnhelaaGreat
open Go.RowKit

section
variable {w0 w : World} {xb tb db pb N n K : Nat} {D : Dv} {ps : List Pg} {root : Int} {prs : List Pr} {pgs : List Nat} {S : Nat → Prop}
theorem does_both {av kv vv : Value} (h : Dx w0 w xb tb db pb N n D ps root prs pgs S) (hav : Rd kdPr w S av prs) (s : Sp) (hkv : Bsf w S kv s.key) (hvv : Bsf w S vv s.val) (hK : ∀ lvl, 2 ^ lvl ≤ N + 1 → 2 * lvl + 3 ≤ K) (hfree : K ≤ freeP ps) (hn : n ≤ 4000000000) (hfew : prs.length ≤ 900000) :
    Calls Tryz.prog 12 #[ptr xb, .int .i64 root, av, .agg #[.bool s.cut, kv, vv, .bool s.settle]] w (Doer w0 w xb tb db pb N n K D ps S (stepP prs s)) := by
  obtain ⟨c, k, v, b⟩ := s
  rcases c with _ | _
  · exact does_put h hav hkv hvv hK hfree hn hfew
  · exact does_cut h hav hkv hvv hK hfree hn hfew
end
theorem stepP_few (prs : List Pr) (s : Sp) : (stepP prs s).length ≤ prs.length + 1 := by
  have h2 : ∀ l : List Pr, (putP l s.key s.val).length ≤ l.length + 1 := by
    intro l
    induction l with
    | nil => exact Nat.le_refl _
    | cons a t ih =>
      unfold putP
      split
      · rw [List.length_cons, List.length_cons]; omega
      · split <;> simp
  unfold stepP
  split
  · split
    · have : (cutP prs s.key).length ≤ prs.length := List.length_filter_le _ _
      omega
    · exact h2 prs
  · omega
end Go.Proofs.YtgekeemhbnhelaaGreat
namespace Go.Proofs.YtgekeemhbnhelaaGreat
open Go.RowKit

theorem mostN_653 : mostN 653 = 771 := by
  rw [mostN_big (by omega), show 2 * (653 * 38) / 503 + 1 = 99 from rfl, mostN_big (by omega), show 2 * (99 * 38) / 503 + 1 = 15 from rfl, mostN_big (by omega), show 2 * (15 * 38) / 503 + 1 = 3 from rfl, mostN_big (by omega), show 2 * (3 * 38) / 503 + 1 = 1 from rfl, mostN_small (by omega)]
theorem mostP_few {ls : List Pr} (h : okUp ls) (hn : ls.length ≤ 1000) : mostP ls ≤ 771 := by
  have hb : bytesP ls ≤ 164 * ls.length := by
    have h1 := h.1
    clear h hn
    unfold bytesP
    induction ls with
    | nil => exact Nat.le_refl _
    | cons a t ih =>
      have h2 := ih fun p hp => h1 p (List.mem_cons_of_mem _ hp)
      obtain ⟨⟨_, h4⟩, h5⟩ := h1 a List.mem_cons_self
      rw [List.map_cons, List.sum_cons, List.length_cons]
      omega
  unfold mostP
  split
  · exact Nat.zero_le _
  · rw [← mostN_653]
    exact mostN_mono 653 _ 653 (Nat.le_refl _) (by omega)
theorem few1500 {lvl : Nat} (h : 2 ^ lvl ≤ 1500 + 1) : 2 * lvl + 3 ≤ 23 := by
  rcases Nat.lt_or_ge lvl 11 with h1 | h1
  · omega
  · have := Nat.pow_le_pow_right (show 0 < 2 by decide) h1
    omega
theorem free_new (n : Nat) : freeP (freshP n) = n := by
  unfold freeP freshP
  simp [List.countP_replicate, pnum]
section
variable {w0 w w2 : World} {xb tb db pb N n K : Nat} {D : Dv} {ps : List Pg} {S : Nat → Prop} {lv : Value} {ls : List Pr}
/-- What Build makes of it. -/
def DxBuilt (w0 w : World) (xb tb db pb N n : Nat) (D : Dv) (ps : List Pg) (S : Nat → Prop) (ls : List Pr) (e : Ending) (w' : World) : Prop :=
  (¬ okUp ls ∧ e = .returned (.tuple #[.int .i64 0, err 1]) ∧ Below w.heap.size w w') ∨
  (okUp ls ∧ ∃ root' D' ps' pgs' S', e = .returned (.tuple #[.int .i64 root', err 0]) ∧ Step S w w' S' ∧ pgs'.length ≤ mostP ls ∧ freeP ps ≤ freeP ps' + mostP ls ∧ Dx w0 w' xb tb db pb N (n + mostP ls) D' ps' root' ls pgs' S')
theorem dx_build (h : Dx w0 w xb tb db pb N n D ps (-1) [] [] S) (hn : n ≤ 4000000000) (hl : Rd kdPr w S lv ls) (hfew : ls.length ≤ 1000) (hfree : 771 < freeP ps) :
    Calls Tryz.prog 27 #[ptr tb, lv] w (DxBuilt w0 w xb tb db pb N n D ps S ls) := by
  refine (tbuild_any h.tr h.on h.left h.up hn hl hfew (fun hu => by have := mostP_few hu hfew; omega) (fun hu => by have := mostP_few hu hfew; omega)).mono ?_
  rintro e w' (⟨h1, h2, h3⟩ | ⟨h1, i, BL, root', pgs', S', he, st, hf, hBL, h512, hi, hw0, htr, hrt, hp⟩)
  · exact .inl ⟨h1, h2, h3⟩
  · have hroom := h.tr.room
    have hall : ∀ p ∈ (placeT ps i).zip BL, 10 + p.1 < D.bk.length ∧ p.2.length = 512 := fun p hp => by
      obtain ⟨a, b⟩ := p
      obtain ⟨h1, h2⟩ := List.of_mem_zip hp
      have := placeT_lt hf h1
      exact ⟨by show 10 + a < _; omega, h512 b h2⟩
    obtain ⟨_, hw1, hw2⟩ := writes_well (fr := 10) _ h.on h.left hall
    have hfr := free_tdones hf
    have hhold := h.hold.done (Xs := []) hf hw0 hrt (by rw [List.nil_append, List.nil_append]; exact hp.symm)
    refine .inr ⟨h1, root', (writesP 10 D ((placeT ps i).zip BL)).1, tdones i ps, pgs', S', he, st, ?_, by omega, ?_⟩
    · have := hp.length_eq
      rw [placeT_length] at this
      omega
    · exact { cel := h.cel.only st.only h.xs, xs := fun hq => (st.more _ hq).elim h.xs fun h1 => by have := h.cel.lt; omega, tr := htr
              s0 := fun q hq => (st.more q hq).elim (h.s0 q) fun h1 => Nat.le_trans h.bw.size h1, x0 := h.x0, bw := h.bw.trans (st.only.below h.bw.size h.s0), on := hw1, left := hw2
              up := (writesP_upto 10 ((placeT ps i).zip BL) h.up).1.more (by rw [List.length_zip, placeT_length, hBL]; omega), len := by rw [tdones_length]; exact h.len, hold := hhold }
end
end Go.Proofs.YtgekeemhbnhelaaGreat
