/- The root of nodes, as lists: nodes are placed, and what stands above them is filled, until there is one; no condition. -/
import Derived.Test.YtgekeemhbnhelaaGreatM24
import Derived.Test.YtgekeemhbnhelaaGreatM25
namespace Go.Proofs.YtgekeemhbnhelaaGreat
open Go.RowKit

/-- Nodes that stand one behind the other, with what lies below them. -/
structure RiseS (B : Nat → Bytes) (N lvl : Nat) (Ls : List (List En)) (prs : List Pr) (pgs : List Nat) : Prop where
  ok : ∀ L ∈ Ls, EsOk N lvl L
  two : 2 ≤ Ls.length → ∀ L ∈ Ls, NdOk N lvl L
  nb : Nb B N lvl Ls.flatten prs pgs
theorem Redone.rises {B : Nat → Bytes} {N lvl : Nat} {Ls : List (List En)} {prs : List Pr} {pgs : List Nat} (h : Redone B N lvl Ls prs pgs) : RiseS B N lvl Ls prs pgs := ⟨h.ok, fun h2 => h.two (by have := h.few; omega), h.nb⟩

section
variable {D : Dv} {fr : Nat} {ps : List Pg} {P : List Nat} {lvl i n : Nat} {Ls : List (List En)} {prs : List Pr} {pgs : List Nat} {BL : List Bytes}

/-- All of them placed: what stands above. -/
theorem rise_up (hN : ps.length ≤ 4096) (hN0 : 0 < ps.length) (hBL : BL.length = i) (hn : n = Ls.length) (hfree : ∀ j, j < i + n → leastFree (tdones j ps) ≠ none) (hP : ∀ q, ps[q]? = some (false, false) → q ∉ P)
    (hpg : ∀ q ∈ pgs, q ∈ P ∨ q ∈ placeT ps i) (hok : ∀ L ∈ Ls, NdOk ps.length lvl L) (hnb : Nb (ovr (blkOf D fr) ((placeT ps i).zip BL)) ps.length lvl Ls.flatten prs pgs) :
    ∃ kids : List Sb, placeE (tdones i ps) (Ls.map (mkN lvl)) n = kids.map kidE ∧ kids.length = n ∧ prs = kids.flatMap Sb.prs ∧ (kids.flatMap Sb.pgs).Perm (pgs ++ placeT (tdones i ps) n) ∧
      (∀ k ∈ kids, Sub (ovr (blkOf D fr) ((placeT ps (i + n)).zip (BL ++ placeB (Ls.map (mkN lvl)) n))) ps.length lvl k) ∧ ∀ q ∈ kids.flatMap Sb.pgs, q ∈ P ∨ q ∈ placeT ps (i + n) := by
  subst hn
  obtain ⟨hnd, hfr⟩ := placeT_free hfree
  have hlenB : (BL ++ placeB (Ls.map (mkN lvl)) Ls.length).length = (placeT ps (i + Ls.length)).length := by rw [List.length_append, placeB_length (by simp), hBL, placeT_length]
  have e2 : ovr (blkOf D fr) ((placeT ps (i + Ls.length)).zip (BL ++ placeB (Ls.map (mkN lvl)) Ls.length)) = ovr (ovr (blkOf D fr) ((placeT ps i).zip BL)) ((placeT (tdones i ps) Ls.length).zip (placeB (Ls.map (mkN lvl)) Ls.length)) := by
    rw [placeT_add, List.zip_append (by rw [placeT_length, hBL]), ovr_append]
  have hadd := placeT_add ps i Ls.length
  rw [hadd] at hnd
  obtain ⟨_, hnd2, hdis⟩ := List.nodup_append.1 hnd
  have hlen2 : (placeB (Ls.map (mkN lvl)) Ls.length).length = (placeT (tdones i ps) Ls.length).length := by rw [placeB_length (by simp), placeT_length]
  have hout : ∀ q ∈ pgs, q ∉ placeT (tdones i ps) Ls.length := fun q hq ht => by
    rcases hpg q hq with h | h
    · exact hP q (hfr q (by rw [hadd]; exact List.mem_append_right _ ht)) h
    · exact hdis q h q ht rfl
  have hnb2 := hnb.congr (B' := ovr (blkOf D fr) ((placeT ps (i + Ls.length)).zip (BL ++ placeB (Ls.map (mkN lvl)) Ls.length))) (fun q hq => by rw [e2]; exact ovr_out' hlen2 (hout q hq))
  obtain ⟨kids, k1, k2, k3, k4⟩ := place_kids (ts := placeT (tdones i ps) Ls.length) (placeT_length _ _) hnb2 hok (fun t ht => (List.getElem?_eq_some_iff.1 (hfr t (by rw [hadd]; exact List.mem_append_right _ ht))).1) (fun j t L ht hL => by
    rw [e2]
    refine ovr_at hlen2 hnd2 ht ?_
    rw [placeB_kids, List.getElem?_map, hL]
    rfl)
  refine ⟨kids, by rw [placeE_kids, k1], ?_, k2.symm, k3.trans List.perm_append_comm, k4, fun q hq => ?_⟩
  · have := congrArg List.length k1
    simpa [placeT_length] using this
  · rcases List.mem_append.1 ((k3.mem_iff (a := q)).1 hq) with h | h
    · exact .inr (by rw [hadd]; exact List.mem_append_right _ h)
    · exact (hpg q h).imp (fun h => h) fun h => by rw [hadd]; exact List.mem_append_left _ h
/-- .. and filled. -/
theorem rise_fill {B : Nat → Bytes} {kids : List Sb} (hN : ps.length ≤ 4096) (hN0 : 0 < ps.length) (hsub : ∀ k ∈ kids, Sub B ps.length lvl k) (hr : RiseP prs) (hp : ∀ p ∈ prs, PrOk p) (hprs : prs = kids.flatMap Sb.prs) (h2 : 2 ≤ kids.length) :
    RiseS B ps.length (lvl + 1) (shareL (lvl + 1) (fillL (lvl + 1) (kids.map kidE))) prs (kids.flatMap Sb.pgs) ∧ (shareL (lvl + 1) (fillL (lvl + 1) (kids.map kidE))).length ≤ 2 * (kids.length * 38) / 503 + 1 ∧ ∀ e ∈ kids.map kidE, EOk ps.length (lvl + 1) e := by
  have hnb : Nb B ps.length (lvl + 1) (kids.map kidE) prs (kids.flatMap Sb.pgs) := Nb.succ.2 ⟨kids, rfl, hprs, rfl, hsub⟩
  have he := hnb.eok hN hN0 hp
  have hF := Filled.of he (hnb.rise hr)
  refine ⟨⟨hF.ok, hF.two, by rw [hF.flat]; exact hnb⟩, ?_, he⟩
  have hc := hF.count
  have hm := nsize_max he
  rw [List.length_map, show maxE (lvl + 1) = 38 by unfold maxE; rw [if_neg (by omega)]] at hm
  have : 2 * nsize (lvl + 1) (kids.map kidE) / 503 ≤ 2 * (kids.length * 38) / 503 := Nat.div_le_div_right (by omega)
  omega
/-- The root of one that is lone: its child. -/
theorem rise_lone {B : Nat → Bytes} {N : Nat} {L : List En} (h : RiseS B N lvl [L] prs pgs) (hl : loneB lvl L.length = true) (hlv : lvl ≤ 4096) (hr : RiseP prs) : ∃ e, L[0]? = some e ∧ Rt B N (e.page : Int) prs pgs := by
  unfold loneB at hl
  have h0 : 0 < lvl := of_decide_eq_true (Bool.and_eq_true_iff.1 hl).1
  have h2 : L.length < 2 := of_decide_eq_true (Bool.and_eq_true_iff.1 hl).2
  have hne := (h.ok L (List.mem_singleton.2 rfl)).1
  obtain ⟨e, rfl⟩ : ∃ e, L = [e] := List.length_eq_one_iff.1 (by have := List.length_pos_iff.2 hne; omega)
  obtain ⟨l, rfl⟩ : ∃ l, lvl = l + 1 := ⟨lvl - 1, by omega⟩
  have hnb := h.nb
  rw [List.flatten_singleton] at hnb
  obtain ⟨kids, h1, rfl, rfl, h4⟩ := Nb.succ.1 hnb
  obtain ⟨k, rfl⟩ : ∃ k, kids = [k] := List.length_eq_one_iff.1 (by have := congrArg List.length h1; simpa using this.symm)
  have he : e = kidE k := by simpa using h1
  subst he
  refine ⟨_, rfl, ⟨.inr ⟨l, k, h4 k (by simp), rfl, by simp, by simp, by omega⟩, hr⟩⟩
theorem rise_alone {B : Nat → Bytes} {N : Nat} {L : List En} (h : RiseS B N lvl [L] prs pgs) (hl : loneB lvl L.length = false) : NdOk N lvl L := by
  refine ⟨h.ok L (List.mem_singleton.2 rfl), fun h0 => ?_⟩
  unfold loneB at hl
  rcases Bool.and_eq_false_iff.1 hl with h1 | h1
  · exact absurd h0 (of_decide_eq_false h1)
  · have := of_decide_eq_false h1
    omega
theorem rise_none {B : Nat → Bytes} {N : Nat} (h : RiseS B N lvl [] prs pgs) : Rt B N (-1) prs pgs := by
  have hnb := h.nb
  have : prs = [] ∧ pgs = [] := by
    cases lvl with
    | zero =>
      obtain ⟨h1, h2⟩ := Nb.zero.1 hnb
      exact ⟨List.map_eq_nil_iff.1 h1.symm, h2⟩
    | succ l =>
      obtain ⟨kids, h1, h2, h3, _⟩ := Nb.succ.1 hnb
      have hk := List.map_eq_nil_iff.1 h1.symm
      subst hk
      exact ⟨h2, h3⟩
  rw [this.1, this.2]
  exact ⟨.inl ⟨rfl, rfl, rfl⟩, List.Pairwise.nil⟩
end
end Go.Proofs.YtgekeemhbnhelaaGreat
