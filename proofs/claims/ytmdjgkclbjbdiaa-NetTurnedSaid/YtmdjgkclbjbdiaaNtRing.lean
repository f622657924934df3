/- A way that closes, as a net: as much around it flows; with one more on one edge it does not, if that leads to another node; no condition. -/
import Derived.Test.YtmdjgkclbjbdiaaNtFlows
namespace Go.Proofs.Ytmdjgkclbjbdiaa

/-- The edge of the i-th place of a way (of nodes), of Cap b + 1. -/
def rgE (ns : List Nat) (b : Nat) (i : Nat) : Ed := ⟨((ns.getD i 0 % 40 : Nat) : Int), ((ns.getD ((i + 1) % ns.length) 0 % 40 : Nat) : Int), (b : Int) + 1, (i : Int) - 20⟩
def rgEs (ns : List Nat) (b k : Nat) : List Ed := (List.range k).map (rgE ns b)
def rgF (b k : Nat) : List Int := List.replicate k (b : Int)
theorem rgEs_length (ns : List Nat) (b k : Nat) : (rgEs ns b k).length = k := by simp [rgEs]
theorem rgEs_more (ns : List Nat) (b k : Nat) : rgEs ns b (k + 1) = rgEs ns b k ++ [rgE ns b k] := by simp [rgEs, List.range_succ]
theorem rgF_more (b k : Nat) : rgF b (k + 1) = rgF b k ++ [(b : Int)] := by simp [rgF, List.replicate_succ']
theorem rgEs_at {ns : List Nat} {b k i : Nat} (h : i < k) : (rgEs ns b k)[i]? = some (rgE ns b i) := by
  unfold rgEs
  rw [List.getElem?_map, List.getElem?_range h]
  rfl
theorem rgE_perm (ns : List Nat) {b i : Nat} (hb : b < 65536) (hi : i < 40) : Perm 40 (rgE ns b i) := by
  unfold Perm rgE
  simp only
  omega
theorem rg_wt (ns : List Nat) {b i : Nat} (_ : b < 65536) (hi : i < 40) (f : Int) (h0 : 0 ≤ f) (hf : f ≤ 65536) : upT (rgE ns b i, f) ≤ 1310720 ∧ dnT (rgE ns b i, f) ≤ 1310720 := by
  have h1 := Int.mul_le_mul_of_nonneg_left (show ((i : Int) - 20) ≤ 20 by omega) h0
  have h2 := Int.mul_le_mul_of_nonneg_left (show (-20 : Int) ≤ ((i : Int) - 20) by omega) h0
  unfold upT dnT rgE
  simp only
  rw [Int.mul_neg]
  constructor <;> split <;> omega
theorem rg_right (ns : List Nat) {b k : Nat} (hb : b < 65536) (hk : k ≤ 40) : RightP 40 (rgEs ns b k) := by
  have hm : ∀ e ∈ rgEs ns b k, ∃ i, i < k ∧ e = rgE ns b i := fun e he => by
    obtain ⟨i, hi, rfl⟩ := List.mem_map.1 he
    exact ⟨i, List.mem_range.1 hi, rfl⟩
  refine ⟨by decide, by decide, by rw [rgEs_length]; omega, fun e he => ?_, ?_⟩
  · obtain ⟨i, hi, rfl⟩ := hm e he
    exact rgE_perm ns hb (by omega)
  · have h1 : upN (full (rgEs ns b k)) ≤ (full (rgEs ns b k)).length * 1310720 := nsum_le _ _ _ fun p hp => by
      obtain ⟨e, he, rfl⟩ := List.mem_map.1 hp
      obtain ⟨i, hi, rfl⟩ := hm e he
      exact (rg_wt ns hb (by omega) _ (by simp only [rgE]; omega) (by simp only [rgE]; omega)).1
    have h2 : dnN (full (rgEs ns b k)) ≤ (full (rgEs ns b k)).length * 1310720 := nsum_le _ _ _ fun p hp => by
      obtain ⟨e, he, rfl⟩ := List.mem_map.1 hp
      obtain ⟨i, hi, rfl⟩ := hm e he
      exact (rg_wt ns hb (by omega) _ (by simp only [rgE]; omega) (by simp only [rgE]; omega)).2
    have h3 : (full (rgEs ns b k)).length = k := by simp [full, rgEs_length]
    rw [h3] at h1 h2
    omega
theorem rg_fits {ns : List Nat} {b k : Nat} {l : List Int} (h : ∀ x ∈ l, 0 ≤ x ∧ x ≤ (b : Int) + 1) : ∀ p ∈ (rgEs ns b k).zip l, Fits p := by
  rintro ⟨e, x⟩ hp
  have h1 := List.of_mem_zip hp
  obtain ⟨i, _, rfl⟩ := List.mem_map.1 h1.1
  exact h x h1.2
theorem rg_within (ns : List Nat) {b k : Nat} (hb : b < 65536) (hk : k ≤ 40) : WithinP 40 (rgEs ns b k) (rgF b k) := by
  refine ⟨rg_right ns hb hk, by rw [rgEs_length]; simp [rgF], rg_fits fun x hx => ?_⟩
  have := List.eq_of_mem_replicate hx
  omega
theorem rg_within2 (ns : List Nat) {b k i : Nat} (hb : b < 65536) (hk : k ≤ 40) : WithinP 40 (rgEs ns b k) ((rgF b k).set i ((b : Int) + 1)) := by
  refine ⟨rg_right ns hb hk, by rw [rgEs_length]; simp [rgF], rg_fits fun x hx => ?_⟩
  rcases List.mem_or_eq_of_mem_set hx with h | h
  · have := List.eq_of_mem_replicate h
    omega
  · omega

/-- A sum around. -/
theorem sum_around (F : Nat → Int) (L : Nat) : ((List.range (L + 1)).map fun i => F ((i + 1) % (L + 1))).sum = ((List.range (L + 1)).map F).sum := by
  rw [List.range_succ, List.map_append, List.sum_append]
  simp only [List.map_cons, List.map_nil, List.sum_cons, List.sum_nil, Nat.mod_self]
  have h1 : (List.range L).map (fun i => F ((i + 1) % (L + 1))) = (List.range L).map (fun i => F (i + 1)) := List.map_congr_left fun i hi => by
    rw [Nat.mod_eq_of_lt (by have := List.mem_range.1 hi; omega)]
  rw [h1, ← List.range_succ, List.range_succ_eq_map]
  simp only [List.map_cons, List.map_map, List.sum_cons, Function.comp_def, Nat.succ_eq_add_one]
  omega
theorem sum_sub {α : Type} (f g : α → Int) : ∀ l : List α, (l.map fun x => f x - g x).sum = (l.map f).sum - (l.map g).sum
  | [] => rfl
  | x :: r => by
    have := sum_sub f g r
    simp only [List.map_cons, List.sum_cons]
    omega
theorem rg_zip (ns : List Nat) (b k : Nat) : (rgEs ns b k).zip (rgF b k) = (List.range k).map fun i => (rgE ns b i, (b : Int)) := by
  induction k with
  | zero => rfl
  | succ k ih => rw [rgEs_more, rgF_more, List.zip_append (by rw [rgEs_length]; simp [rgF]), ih, List.range_succ, List.map_append]; rfl
theorem rg_over (ns : List Nat) (b : Nat) (v : Int) : ovr ((rgEs ns b ns.length).zip (rgF b ns.length)) v = 0 := by
  rw [rg_zip]
  unfold ovr
  rw [List.map_map]
  rcases hl : ns.length with _ | L
  · rfl
  · have h := sum_around (fun i => if ((ns.getD i 0 % 40 : Nat) : Int) = v then (b : Int) else 0) L
    have h2 : ((fun p => ovT v p) ∘ fun i => (rgE ns b i, (b : Int))) = fun i => (if ((ns.getD ((i + 1) % (L + 1)) 0 % 40 : Nat) : Int) = v then (b : Int) else 0) - (if ((ns.getD i 0 % 40 : Nat) : Int) = v then (b : Int) else 0) := by
      funext i
      simp only [Function.comp_def, ovT, rgE, hl]
    have h3 : (ovT v ∘ fun i => (rgE ns b i, (b : Int))) = fun i => (if ((ns.getD ((i + 1) % (L + 1)) 0 % 40 : Nat) : Int) = v then (b : Int) else 0) - (if ((ns.getD i 0 % 40 : Nat) : Int) = v then (b : Int) else 0) := h2
    rw [h3, sum_sub, h]
    omega
theorem rg_flows (ns : List Nat) {b : Nat} (hb : b < 65536) (hk : ns.length ≤ 40) : FlowsP 40 (rgEs ns b ns.length) (rgF b ns.length) := by
  refine ⟨rg_within ns hb hk, fun x hx => ?_⟩
  obtain ⟨v, _, rfl⟩ := List.mem_map.1 hx
  exact rg_over ns b v

/-- One number of a flow turned. -/
theorem zip_set_sum (F : Ed × Int → Int) : ∀ (es : List Ed) (l : List Int) (k : Nat) (e : Ed) (x y : Int), es[k]? = some e → l[k]? = some x → ((es.zip (l.set k y)).map F).sum = ((es.zip l).map F).sum - F (e, x) + F (e, y)
  | [], _, _, _, _, _, h, _ => by simp at h
  | _ :: _, [], _, _, _, _, _, h => by simp at h
  | a :: r, c :: m, 0, e, x, y, h1, h2 => by
    simp only [List.getElem?_cons_zero, Option.some.injEq] at h1 h2
    subst h1
    subst h2
    simp only [List.set_cons_zero, List.zip_cons_cons, List.map_cons, List.sum_cons]
    omega
  | a :: r, c :: m, k + 1, e, x, y, h1, h2 => by
    simp only [List.getElem?_cons_succ] at h1 h2
    have ih := zip_set_sum F r m k e x y h1 h2
    simp only [List.set_cons_succ, List.zip_cons_cons, List.map_cons, List.sum_cons]
    omega
theorem rgF_at {b k i : Nat} (h : i < k) : (rgF b k)[i]? = some (b : Int) := by unfold rgF; rw [List.getElem?_replicate, if_pos h]
theorem rg_over2 (ns : List Nat) {b i : Nat} (hi : i < ns.length) (v : Int) : ovr ((rgEs ns b ns.length).zip ((rgF b ns.length).set i ((b : Int) + 1))) v = (if (rgE ns b i).to = v then 1 else 0) - (if (rgE ns b i).fr = v then 1 else 0) := by
  have h := zip_set_sum (ovT v) _ _ i _ _ ((b : Int) + 1) (rgEs_at (ns := ns) (b := b) hi) (rgF_at (b := b) hi)
  have h0 := rg_over ns b v
  unfold ovr at *
  rw [h, h0]
  unfold ovT
  simp only
  split <;> split <;> omega
theorem rg_flows2 (ns : List Nat) {b i : Nat} (hb : b < 65536) (hk : ns.length ≤ 40) (hi : i < ns.length) : FlowsP 40 (rgEs ns b ns.length) ((rgF b ns.length).set i ((b : Int) + 1)) ↔ (rgE ns b i).fr = (rgE ns b i).to := by
  have hp := rgE_perm ns (b := b) (i := i) hb (by omega)
  constructor
  · rintro ⟨_, h⟩
    have h1 := h (ovr ((rgEs ns b ns.length).zip ((rgF b ns.length).set i ((b : Int) + 1))) ((rgE ns b i).to.toNat : Int)) (List.mem_map.2 ⟨(rgE ns b i).to.toNat, List.mem_range.2 (by have := hp.2.2.1; have := hp.2.2.2.1; omega), rfl⟩)
    rw [rg_over2 ns hi, if_pos (by have := hp.2.2.1; omega)] at h1
    split at h1
    · rename_i h2
      have := hp.2.2.1
      omega
    · omega
  · intro h
    refine ⟨rg_within2 ns hb hk, fun x hx => ?_⟩
    obtain ⟨v, _, rfl⟩ := List.mem_map.1 hx
    rw [rg_over2 ns hi, h]
    split <;> omega
theorem rg_cost2 (ns : List Nat) {b i : Nat} (hb : b < 65536) (hk : ns.length ≤ 40) (hi : i < ns.length) : costP 40 (rgEs ns b ns.length) ((rgF b ns.length).set i ((b : Int) + 1)) = costP 40 (rgEs ns b ns.length) (rgF b ns.length) + (rgE ns b i).cost := by
  unfold costP
  rw [if_pos (rg_within2 ns hb hk), if_pos (rg_within ns hb hk)]
  have h := zip_set_sum (fun p => p.2 * p.1.cost) _ _ i _ _ ((b : Int) + 1) (rgEs_at (ns := ns) (b := b) hi) (rgF_at (b := b) hi)
  unfold costL
  rw [h]
  simp only [Int.add_mul, Int.one_mul]
  omega
theorem rg_cost_le (ns : List Nat) {b : Nat} (hb : b < 65536) (hk : ns.length ≤ 40) : -4611686018427387904 ≤ costP 40 (rgEs ns b ns.length) (rgF b ns.length) ∧ costP 40 (rgEs ns b ns.length) (rgF b ns.length) ≤ 4611686018427387904 := by
  have h := (rg_within ns hb hk).cost
  unfold costP
  rw [if_pos (rg_within ns hb hk), h.2.2]
  omega
end Go.Proofs.Ytmdjgkclbjbdiaa
