/- The document's own Rise and Most of pairs: their walks; no condition. · The document's own Most of pairs: its walk; condition: few pairs, of few bytes. · Leaves that are built of pairs that rise, as lists; condition: there are pages, and no more than 4096. -/
import Derived.Test.YtgekeemhbnhelaaGreatM40
import Derived.Test.YtgekeemhbnhelaaGreatM24
import Derived.Test.YtgekeemhbnhelaaGreatM29
namespace Go.Proofs.YtgekeemhbnhelaaGreat
open Go.RowKit

/-- Pairs that may be built. -/
def okUp (ls : List Pr) : Prop := (∀ p ∈ ls, PrOk p) ∧ RiseP ls
theorem okUp_nil : okUp [] := ⟨fun p hp => (by cases hp), List.Pairwise.nil⟩
theorem okUp_last {ls : List Pr} {r : Nat} {p q : Pr} (h : okUp ls) (hp : ls[r]? = some p) (hq : ls[r - 1]? = some q) (h0 : 0 < r) : cmp q.1 p.1 < 0 := by
  obtain ⟨h1, rfl⟩ := List.getElem?_eq_some_iff.1 hp
  obtain ⟨h2, rfl⟩ := List.getElem?_eq_some_iff.1 hq
  exact List.pairwise_iff_getElem.1 h.2 (r - 1) r h2 h1 (by omega)
theorem okUp_step {ls : List Pr} {r : Nat} {p : Pr} (h : okUp (ls.take r)) (hp : ls[r]? = some p) (ho : PrOk p) (hl : ∀ q, 0 < r → ls[r - 1]? = some q → cmp q.1 p.1 < 0) : okUp (ls.take (r + 1)) := by
  rw [take_snoc hp]
  refine ⟨fun q hq => ?_, RiseP.append.2 ⟨h.2, List.pairwise_singleton _ _, fun x hx y hy => ?_⟩⟩
  · rcases List.mem_append.1 hq with h1 | h1
    · exact h.1 q h1
    · rw [List.mem_singleton.1 h1]; exact ho
  · rw [List.mem_singleton.1 hy]
    obtain ⟨i, hi, e⟩ := List.getElem_of_mem hx
    have hr := (List.getElem?_eq_some_iff.1 hp).1
    rw [List.length_take] at hi
    have h3 := hl ls[r - 1] (by omega) (List.getElem?_eq_getElem (by omega))
    rw [List.getElem_take] at e
    rcases Nat.lt_or_ge i (r - 1) with h1 | h1
    · have h2 := List.pairwise_iff_getElem.1 h.2 i (r - 1) (by rw [List.length_take]; omega) (by rw [List.length_take]; omega) h1
      rw [List.getElem_take, List.getElem_take, e] at h2
      exact cmp_ltt h2 h3
    · have : i = r - 1 := by omega
      subst this
      rw [← e]
      exact h3
theorem prOk_may {p : Pr} : PrOk p ↔ mayK p.1 = true ∧ mayV p.2 = true := by
  unfold PrOk mayK mayV
  simp
/-- What Most answers. -/
def bytesP (ls : List Pr) : Nat := (ls.map fun p => 4 + p.1.length + p.2.length).sum
def mostP (ls : List Pr) : Nat := if ls = [] then 0 else mostN (2 * bytesP ls / 503 + 1)
theorem bytesP_succ {ls : List Pr} {r : Nat} {p : Pr} (hp : ls[r]? = some p) : bytesP (ls.take (r + 1)) = bytesP (ls.take r) + 4 + p.1.length + p.2.length := by
  unfold bytesP
  rw [take_snoc hp, List.map_append, List.sum_append]
  simp
  omega

/-- What Rise answers. -/
def RiseR (w : World) (ls : List Pr) (e : Ending) (w' : World) : Prop := ∃ b, e = .returned (.bool b) ∧ (b = true ↔ okUp ls) ∧ Below w.heap.size w w'
section
variable {S : Nat → Prop} {lv : Value} {ls : List Pr}
set_option maxRecDepth 100000 in
set_option maxHeartbeats 4000000 in
theorem rrise_any (w : World) (h : Rd kdPr w S lv ls) (hn : ls.length ≤ 1000000) : Calls Tryz.prog 28 #[lv] w (RiseR w ls) := by
  obtain ⟨la, lc, rfl, _⟩ := h.shape
  obtain ⟨n, hnn⟩ : ∃ n, n = ls.length := ⟨_, rfl⟩
  rw [← hnn] at h hn ⊢
  have HH := Lib.hid (And.intro h hnn)
  clear h hnn
  go_enter Tryz.func28, Tryz.ntmps28
  go_wp2
  go_loopw [3] (fun i wr => ∃ r : Nat, r ≤ n ∧ i = .int .i64 (r : Int) ∧ okUp (ls.take r) ∧ Below w.heap.size w wr) (fun i _ => n - (intOf i).toNat)
  case atStart => exact ⟨0, Nat.zero_le _, rfl, by rw [List.take_zero]; exact okUp_nil, Below.refl _ _⟩
  case round =>
    obtain ⟨r, hr, rfl, hok, hb⟩ := hrel
    obtain ⟨h, hnn⟩ := HH.out
    by_cases hlt : r < n
    · obtain ⟨p, hp⟩ : ∃ p, ls[r]? = some p := ⟨_, List.getElem?_eq_getElem (by omega)⟩
      have h' := h.step (Step.of_below hb S)
      obtain ⟨g, o, cap, ka, kc, va, vc, e0, hg, k0, k1, bk, bv⟩ := h'.par hp
      rw [← hnn] at e0
      simp only [Value.slice.injEq] at e0
      obtain ⟨rfl, -, rfl⟩ := e0
      have hil : (r : Int) < (n : Int) := by omega
      have hr0 : (0 : Int) ≤ (r : Int) := by omega
      have K1 := fun m => rmayKey_any (wr.drewN m) (bk.1.below (below_drewN (Below.refl wr.heap.size wr) m))
      have V1 := fun m => rmayVal_any (wr.drewN m) (bv.1.below (below_drewN (Below.refl wr.heap.size wr) m))
      obtain ⟨pkn, hpk⟩ : ∃ x, x = p.1.length := ⟨_, rfl⟩
      obtain ⟨pvn, hpv⟩ : ∃ x, x = p.2.length := ⟨_, rfl⟩
      rw [← hpk] at k0 K1 bk
      rw [← hpv] at k1 V1 bv
      have hno : (mayK p.1 = false ∨ mayV p.2 = false) → ¬ okUp ls := fun hm hu => by
        have h1 := prOk_may.1 (hu.1 p (List.mem_of_getElem? hp))
        rcases hm with hm | hm
        · rw [h1.1] at hm; cases hm
        · rw [h1.2] at hm; cases hm
      have HB := Lib.hid (And.intro hb hno)
      rcases hk : mayK p.1 with _ | _
      · simp only [hk] at K1
        have K2 := Lib.hid K1
        have hno := HB.out.2 (.inl hk)
        have HN := Lib.hid hno
        clear h h' hnn hok hb hp bk bv hno K1 V1 hk k1 HH hpk hpv
        go_wp2
        go_quiet ((go_at_call 15; exact quiet_left (K2.out _)))
        go_wp2
        go_ret
        exact ⟨_, rfl, ⟨(fun h => by cases h), fun h => absurd h HN.out⟩, below_drewN HB.out.1 _⟩
      rcases hv : mayV p.2 with _ | _
      · simp only [hk] at K1
        simp only [hv] at V1
        have K2 := Lib.hid K1
        have V2 := Lib.hid V1
        have hno := HB.out.2 (.inr hv)
        have HN := Lib.hid hno
        clear h h' hnn hok hb hp bk bv hno K1 V1 hk hv HH hpk hpv
        go_wp2
        go_quiet (first | (go_at_call 15; exact quiet_left (K2.out _)) | (go_at_call 31; exact quiet_left (V2.out _)))
        go_wp2
        go_ret
        exact ⟨_, rfl, ⟨(fun h => by cases h), fun h => absurd h HN.out⟩, below_drewN HB.out.1 _⟩
      simp only [hk] at K1
      simp only [hv] at V1
      have K2 := Lib.hid K1
      have V2 := Lib.hid V1
      have hpo : PrOk p := prOk_may.2 ⟨hk, hv⟩
      by_cases h0 : r = 0
      · have hsx := okUp_step hok hp hpo (fun q hq => by omega)
        have hg0 : decide (0 < r) = false := decide_eq_false (by omega)
        have HN := Lib.hid hsx
        clear h h' hnn hok hb hp bk bv K1 V1 hk hv hpo hsx HH hpk hpv h0
        go_wp2
        go_quiet (first | (go_at_call 15; exact quiet_left (K2.out _)) | (go_at_call 31; exact quiet_left (V2.out _)))
        go_wp2
        go_roundw
        case rel => exact ⟨r + 1, by omega, by go_num, HN.out, below_drewN HB.out.1 _⟩
        case measure => simp [intOf]; omega
      · obtain ⟨j, rfl⟩ : ∃ j, r = j + 1 := ⟨r - 1, by omega⟩
        obtain ⟨q, hq⟩ : ∃ q, ls[j]? = some q := ⟨_, List.getElem?_eq_getElem (by omega)⟩
        obtain ⟨g', o', cap', qa, qc, ua, uc, e0', hg', l0, l1, bq, bu⟩ := h'.par hq
        rw [← hnn] at e0'
        simp only [Value.slice.injEq, Option.some.injEq, Addr.mk.injEq] at e0'
        obtain ⟨⟨rfl, rfl, -⟩, -, rfl⟩ := e0'
        have t1 := fun m => run_string_bs bt (d := 9) Tryz.underlying9 (wr.drewN m) (bk.1.kept fun _ _ hu => hu)
        have t2 := fun m => run_string_bs bt (d := 9) Tryz.underlying9 (wr.drewN m) (bq.1.kept fun _ _ hu => hu)
        have hg0 : (0 : Int) < ((j + 1 : Nat) : Int) := by omega
        have hj1 : ((j + 1 : Nat) : Int) - 1 = (j : Int) := by omega
        have hj2 : (0 : Int) ≤ (j : Int) := by omega
        have hj3 : (j : Int) < (n : Int) := by omega
        by_cases hc : cmp q.1 p.1 < 0
        · have hl1 : Op.bytesLess q.1 p.1 = true := by rw [bytesLess_cmp]; exact decide_eq_true hc
          have hsx := okUp_step hok hp hpo (fun q' _ hq' => by
            have e : q' = q := by
              have : ls[j]? = some q' := hq'
              rw [hq] at this
              exact (Option.some.inj this).symm
            rw [e]; exact hc)
          have HN := Lib.hid hsx
          clear h h' hnn hok hb hp hq bk bv bq bu K1 V1 hk hv hpo hsx hc l1 HH hpk hpv
          go_wp2
          go_quiet (first | (go_at_call 15; exact quiet_left (K2.out _)) | (go_at_call 31; exact quiet_left (V2.out _)))
          clear t1 t2
          go_wp2
          go_roundw
          case rel => exact ⟨j + 1 + 1, by omega, by go_num, HN.out, below_drewN HB.out.1 _⟩
          case measure => simp [intOf]; omega
        · have hl1 : Op.bytesLess q.1 p.1 = false := by rw [bytesLess_cmp]; exact decide_eq_false hc
          have hno : ¬ okUp ls := fun hu => hc (okUp_last hu hp (show ls[j + 1 - 1]? = some q from hq) (by omega))
          have HN := Lib.hid hno
          clear h h' hnn hok hb hp hq bk bv bq bu K1 V1 hk hv hpo hno hc l1 HH hpk hpv
          go_wp2
          go_quiet (first | (go_at_call 15; exact quiet_left (K2.out _)) | (go_at_call 31; exact quiet_left (V2.out _)))
          clear t1 t2
          go_wp2
          go_ret
          exact ⟨_, rfl, ⟨(fun h => by cases h), fun h => absurd h HN.out⟩, below_drewN HB.out.1 _⟩
    · obtain rfl : r = n := by omega
      rw [List.take_of_length_le (by omega)] at hok
      have hil : ¬ (r : Int) < (r : Int) := by omega
      have HB := Lib.hid (And.intro hb hok)
      clear h hnn hok hb
      go_wp2
      go_ret
      exact ⟨_, rfl, ⟨fun _ => HB.out.2, fun _ => rfl⟩, HB.out.1⟩
end
end Go.Proofs.YtgekeemhbnhelaaGreat
namespace Go.Proofs.YtgekeemhbnhelaaGreat
open Go.RowKit

theorem bytesP_le {ls : List Pr} (h : ∀ p ∈ ls, p.1.length + p.2.length ≤ 900) : bytesP ls ≤ 904 * ls.length := by
  unfold bytesP
  induction ls with
  | nil => exact Nat.le_refl _
  | cons a t ih =>
    have h1 := ih fun p hp => h p (List.mem_cons_of_mem _ hp)
    have h2 := h a List.mem_cons_self
    rw [List.map_cons, List.sum_cons, List.length_cons]
    omega
theorem mostN_4001 : mostN 4001 = 4716 := by
  rw [mostN_big (by omega), show 2 * (4001 * 38) / 503 + 1 = 605 from rfl, mostN_big (by omega), show 2 * (605 * 38) / 503 + 1 = 92 from rfl, mostN_big (by omega), show 2 * (92 * 38) / 503 + 1 = 14 from rfl, mostN_big (by omega), show 2 * (14 * 38) / 503 + 1 = 3 from rfl, mostN_big (by omega), show 2 * (3 * 38) / 503 + 1 = 1 from rfl, mostN_small (by omega)]
section
variable {S : Nat → Prop} {lv : Value} {ls : List Pr}
set_option maxRecDepth 100000 in
set_option maxHeartbeats 4000000 in
theorem rmost_any (w : World) (h : Rd kdPr w S lv ls) (hn : ls.length ≤ 1000) (hs : ∀ p ∈ ls, p.1.length + p.2.length ≤ 900) : Calls Tryz.prog 30 #[lv] w fun e w' => e = .returned (.int .i64 (mostP ls : Nat)) ∧ Below w.heap.size w w' := by
  obtain ⟨la, lc, rfl, _⟩ := h.shape
  obtain ⟨n, hnn⟩ : ∃ n, n = ls.length := ⟨_, rfl⟩
  rw [← hnn] at h hn ⊢
  have HH := Lib.hid (And.intro h (And.intro hnn hs))
  clear h hnn hs
  go_enter Tryz.func30, Tryz.ntmps30
  go_wp2
  go_loopw [3, 4] (fun sv i wr => ∃ r : Nat, r ≤ n ∧ i = .int .i64 (r : Int) ∧ sv = .int .i64 (bytesP (ls.take r) : Nat) ∧ Below w.heap.size w wr) (fun _ i _ => n - (intOf i).toNat)
  case atStart => exact ⟨0, Nat.zero_le _, rfl, rfl, Below.refl _ _⟩
  case round =>
    obtain ⟨r, hr, rfl, rfl, hb⟩ := hrel
    obtain ⟨h, hnn, hs⟩ := HH.out
    have hle : bytesP (ls.take r) ≤ 904 * r := by
      have := bytesP_le (ls := ls.take r) fun p hp => hs p (List.mem_of_mem_take hp)
      rw [List.length_take] at this
      omega
    by_cases hlt : r < n
    · obtain ⟨p, hp⟩ : ∃ p, ls[r]? = some p := ⟨_, List.getElem?_eq_getElem (by omega)⟩
      obtain ⟨g, o, cap, ka, kc, va, vc, e0, hg, k0, k1, bk, bv⟩ := (h.step (Step.of_below hb S)).par hp
      rw [← hnn] at e0
      simp only [Value.slice.injEq] at e0
      obtain ⟨rfl, -, rfl⟩ := e0
      have hsz := hs p (List.mem_of_getElem? hp)
      obtain ⟨pkn, hpk⟩ : ∃ x, x = p.1.length := ⟨_, rfl⟩
      obtain ⟨pvn, hpv⟩ : ∃ x, x = p.2.length := ⟨_, rfl⟩
      have hsum := bytesP_succ hp
      rw [← hpk, ← hpv] at hsum hsz
      rw [← hpk] at k0
      rw [← hpv] at k1
      obtain ⟨sn, hsn⟩ : ∃ x, x = bytesP (ls.take r) := ⟨_, rfl⟩
      rw [← hsn] at hsum hle ⊢
      have hil : (r : Int) < (n : Int) := by omega
      have hr0 : (0 : Int) ≤ (r : Int) := by omega
      have HB := Lib.hid (And.intro hb hsum)
      clear h hnn hs hb hp bk bv hpk hpv hsn hsum
      go_wp2
      go_quiet (fail)
      go_wp2
      go_roundw
      case rel =>
        refine ⟨r + 1, by omega, by go_num, ?_, below_drewN HB.out.1 _⟩
        rw [HB.out.2]
        go_num
      case measure => simp [intOf]; omega
    · obtain rfl : r = n := by omega
      rw [List.take_of_length_le (by omega)] at hle ⊢
      have hil : ¬ (r : Int) < (r : Int) := by omega
      by_cases h0 : ls = []
      · have hm : mostP ls = 0 := if_pos h0
        have hr0 : r = 0 := by rw [hnn, h0]; rfl
        subst hr0
        have HB := Lib.hid (And.intro hb hm)
        clear h hnn hs hb hm h0
        go_wp2
        go_ret
        exact ⟨by rw [HB.out.2]; rfl, HB.out.1⟩
      · have hm : mostP ls = mostN (2 * bytesP ls / 503 + 1) := if_neg h0
        obtain ⟨sn, hsn⟩ : ∃ x, x = bytesP ls := ⟨_, rfl⟩
        rw [← hsn] at hle hm ⊢
        have hr1 : ¬ (r : Int) = 0 := by
          have := List.length_pos_iff.2 h0
          omega
        obtain ⟨q, hq⟩ : ∃ q, q = 2 * sn / 503 := ⟨_, rfl⟩
        rw [← hq] at hm
        have hq1 : Int.tdiv (2 * (sn : Int)) 503 = (q : Int) := by
          rw [Int.tdiv_eq_ediv_of_nonneg (by omega), hq]
          omega
        have hq2 : q ≤ 4000 := by omega
        have hs2 : sn ≤ 904000 := by omega
        obtain ⟨M, hM⟩ : ∃ M, M = mostN (q + 1) := ⟨_, rfl⟩
        have hMb : M ≤ 4716 := by
          rw [hM, ← mostN_4001]
          exact mostN_mono 4001 (q + 1) 4001 (Nat.le_refl _) (by omega)
        rw [← hM] at hm
        have HB := Lib.hid (And.intro hb (And.intro hm hM))
        clear h hnn hs hb hm h0 hsn hle hq hM
        go_wp2
        go_loopw [5, 6] (fun lv sv wr => ∃ L s : Nat, lv = .int .i64 (L : Int) ∧ sv = .int .i64 (s : Int) ∧ 1 ≤ L ∧ L ≤ 4001 ∧ s + mostN L = M + L ∧ Below w.heap.size w wr) (fun lv _ _ => (intOf lv).toNat)
        case atStart => exact ⟨q + 1, q + 1, by go_num, by go_num, by omega, by omega, by rw [HB.out.2.2]; omega, HB.out.1⟩
        case round =>
          obtain ⟨L, s, rfl, rfl, hL1, hL2, hL3, hb⟩ := hrel
          have hle := mostN_le L
          by_cases hlt : 1 < L
          · have hbig := mostN_big hlt
            obtain ⟨q', hq'⟩ : ∃ x, x = 2 * (L * 38) / 503 := ⟨_, rfl⟩
            rw [← hq'] at hbig
            have hq3 : Int.tdiv (2 * (L : Int) * 38) 503 = (q' : Int) := by
              rw [Int.tdiv_eq_ediv_of_nonneg (by omega), hq']
              omega
            have hq4 : q' + 1 < L := by omega
            have hil : (1 : Int) < (L : Int) := by omega
            have hsb : s ≤ 4716 := by omega
            have H2 := Lib.hid (And.intro hb (show s + (q' + 1) + mostN (q' + 1) = M + (q' + 1) by omega))
            clear hb hL3 hle hbig hq'
            go_wp2
            go_roundw
            case rel => exact ⟨q' + 1, s + (q' + 1), by go_num, by go_num, by omega, by omega, H2.out.2, H2.out.1⟩
            case measure => simp [intOf]; omega
          · obtain rfl : L = 1 := by omega
            have hil : ¬ (1 : Int) < ((1 : Nat) : Int) := by decide
            rw [mostN_small (by omega)] at hL3
            obtain rfl : s = M := by omega
            have H2 := Lib.hid hb
            clear hb hL3 hle
            go_wp2
            go_ret
            refine ⟨?_, H2.out⟩
            rw [HB.out.2.1]
            rfl
end
end Go.Proofs.YtgekeemhbnhelaaGreat
namespace Go.Proofs.YtgekeemhbnhelaaGreat
open Go.RowKit

theorem bytes_es (prs : List Pr) : nsize 0 (prs.map prE) = bytesP prs := by
  unfold nsize bytesP
  rw [List.map_map]
  rfl
theorem build_leaf {B : Nat → Bytes} {N : Nat} {prs : List Pr} (hN : N ≤ 4096) (hN0 : 0 < N) (h : okUp prs) :
    RiseS B N 0 (shareL 0 (fillL 0 (prs.map prE))) prs [] ∧ mostN (shareL 0 (fillL 0 (prs.map prE))).length ≤ mostP prs ∧ ∀ e ∈ prs.map prE, EOk N 0 e := by
  have hnb : Nb B N 0 (prs.map prE) prs [] := Nb.zero.2 ⟨rfl, rfl⟩
  have he := hnb.eok hN hN0 h.1
  have hF := Filled.of he (hnb.rise h.2)
  refine ⟨⟨hF.ok, hF.two, by rw [hF.flat]; exact hnb⟩, ?_, he⟩
  by_cases h0 : prs = []
  · subst h0
    show mostN 0 ≤ 0
    rw [mostN_small (by omega)]
    exact Nat.le_refl _
  · unfold mostP
    rw [if_neg h0]
    have hc := hF.count
    rw [bytes_es] at hc
    exact mostN_mono _ _ _ (Nat.le_refl _) hc
end Go.Proofs.YtgekeemhbnhelaaGreat
