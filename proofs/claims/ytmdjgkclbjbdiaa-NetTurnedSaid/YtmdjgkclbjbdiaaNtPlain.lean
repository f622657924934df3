/- Nets as plain values: edges, what is permitted, what comes to a node and goes, the cost as a sum; no condition. -/
import Derived.Test.YtmdjgkclbjbdiaaBy
namespace Go.Proofs.Ytmdjgkclbjbdiaa

/-- An edge. -/
structure Ed where
  fr : Int
  to : Int
  cap : Int
  cost : Int

def Perm (n : Int) (e : Ed) : Prop := 0 ≤ e.fr ∧ e.fr < n ∧ 0 ≤ e.to ∧ e.to < n ∧ 0 ≤ e.cap ∧ e.cap ≤ 4503599627370496 ∧ -1000 ≤ e.cost ∧ e.cost ≤ 1000
instance (n : Int) (e : Ed) : Decidable (Perm n e) := by unfold Perm; infer_instance

abbrev Load := List (Ed × Int)
def upT (p : Ed × Int) : Nat := if p.1.cost < 0 then 0 else (p.2 * p.1.cost).toNat
def dnT (p : Ed × Int) : Nat := if p.1.cost < 0 then (p.2 * -p.1.cost).toNat else 0
def upN (ls : Load) : Nat := (ls.map upT).sum
def dnN (ls : Load) : Nat := (ls.map dnT).sum
def full (es : List Ed) : Load := es.map fun e => (e, e.cap)

def RightP (n : Int) (es : List Ed) : Prop := 1 ≤ n ∧ n ≤ 40 ∧ es.length ≤ 200 ∧ (∀ e ∈ es, Perm n e) ∧ upN (full es) + dnN (full es) ≤ 4611686018427387904
instance (n : Int) (es : List Ed) : Decidable (RightP n es) := by unfold RightP; infer_instance
def Fits (p : Ed × Int) : Prop := 0 ≤ p.2 ∧ p.2 ≤ p.1.cap
instance (p : Ed × Int) : Decidable (Fits p) := by unfold Fits; infer_instance
def WithinP (n : Int) (es : List Ed) (l : List Int) : Prop := RightP n es ∧ l.length = es.length ∧ ∀ p ∈ es.zip l, Fits p
instance (n : Int) (es : List Ed) (l : List Int) : Decidable (WithinP n es l) := by unfold WithinP; infer_instance

/-- What comes to v of one edge, less what goes. -/
def ovT (v : Int) (p : Ed × Int) : Int := (if p.1.to = v then p.2 else 0) - (if p.1.fr = v then p.2 else 0)
def ovr (ls : Load) (v : Int) : Int := (ls.map (ovT v)).sum
def overL (n : Int) (ls : Load) : List Int := (List.range n.toNat).map fun v : Nat => ovr ls (v : Int)
def overP (n : Int) (es : List Ed) (l : List Int) : List Int := if WithinP n es l then overL n (es.zip l) else []
def FlowsP (n : Int) (es : List Ed) (l : List Int) : Prop := WithinP n es l ∧ ∀ x ∈ overL n (es.zip l), x = 0
instance (n : Int) (es : List Ed) (l : List Int) : Decidable (FlowsP n es l) := by unfold FlowsP; infer_instance
def costL (ls : Load) : Int := (ls.map fun p => p.2 * p.1.cost).sum
def costP (n : Int) (es : List Ed) (l : List Int) : Int := if WithinP n es l then costL (es.zip l) else 0

/-- What a sum that goes on to the k-th is made of. -/
theorem sum_take {α : Type} (f : α → Nat) (l : List α) {k : Nat} {x : α} (h : l[k]? = some x) : ((l.take (k + 1)).map f).sum = ((l.take k).map f).sum + f x := by
  rw [List.take_add_one, h]
  simp
theorem isum_take {α : Type} (f : α → Int) (l : List α) {k : Nat} {x : α} (h : l[k]? = some x) : ((l.take (k + 1)).map f).sum = ((l.take k).map f).sum + f x := by
  rw [List.take_add_one, h]
  simp
theorem upN_take {ls : Load} {k : Nat} {p : Ed × Int} (h : ls[k]? = some p) : upN (ls.take (k + 1)) = upN (ls.take k) + upT p := sum_take _ _ h
theorem dnN_take {ls : Load} {k : Nat} {p : Ed × Int} (h : ls[k]? = some p) : dnN (ls.take (k + 1)) = dnN (ls.take k) + dnT p := sum_take _ _ h

/-- Small: what flows, and the cost, are within their bounds. -/
def SmallT (p : Ed × Int) : Prop := 0 ≤ p.2 ∧ p.2 ≤ 4503599627370496 ∧ -1000 ≤ p.1.cost ∧ p.1.cost ≤ 1000
theorem mul_bounds {a b : Int} (ha : 0 ≤ a) (ha' : a ≤ 4503599627370496) (hb : -1000 ≤ b) (hb' : b ≤ 1000) : -4503599627370496000 ≤ a * b ∧ a * b ≤ 4503599627370496000 ∧ (0 ≤ b → 0 ≤ a * b) ∧ (b ≤ 0 → a * b ≤ 0) := by
  have h1 : a * b ≤ a * 1000 := Int.mul_le_mul_of_nonneg_left hb' ha
  have h2 : a * -1000 ≤ a * b := Int.mul_le_mul_of_nonneg_left hb ha
  refine ⟨by omega, by omega, fun h => Int.mul_nonneg ha h, fun h => ?_⟩
  have : a * b ≤ a * 0 := Int.mul_le_mul_of_nonneg_left h ha
  simpa using this
theorem SmallT.le {p : Ed × Int} (h : SmallT p) : upT p ≤ 4503599627370496000 ∧ dnT p ≤ 4503599627370496000 := by
  obtain ⟨h1, h2, h3, h4⟩ := h
  have hb := mul_bounds h1 h2 h3 h4
  unfold upT dnT
  rw [Int.mul_neg]
  constructor <;> split <;> omega
theorem nsum_le {α : Type} (f : α → Nat) (c : Nat) : ∀ l : List α, (∀ x ∈ l, f x ≤ c) → (l.map f).sum ≤ l.length * c
  | [], _ => by simp
  | x :: r, h => by
    have h1 := h x (by simp)
    have h2 := nsum_le f c r (fun y hy => h y (List.mem_cons_of_mem _ hy))
    simp only [List.map_cons, List.sum_cons, List.length_cons, Nat.succ_mul]
    omega
theorem up_le {ls : Load} (h : ∀ p ∈ ls, SmallT p) : upN ls ≤ ls.length * 4503599627370496000 := nsum_le _ _ _ fun p hp => (h p hp).le.1
theorem dn_le {ls : Load} (h : ∀ p ∈ ls, SmallT p) : dnN ls ≤ ls.length * 4503599627370496000 := nsum_le _ _ _ fun p hp => (h p hp).le.2
theorem Perm.small {n : Int} {e : Ed} (h : Perm n e) : SmallT (e, e.cap) := by
  unfold Perm at h
  unfold SmallT
  simp only
  omega
theorem full_small {n : Int} {es : List Ed} (h : ∀ e ∈ es, Perm n e) : ∀ p ∈ full es, SmallT p := by
  intro p hp
  obtain ⟨e, he, rfl⟩ := List.mem_map.1 hp
  exact (h e he).small

/-- The cost is what is above less what is below. -/
theorem cost_eq : ∀ {ls : Load}, (∀ p ∈ ls, 0 ≤ p.2) → costL ls = (upN ls : Int) - (dnN ls : Int)
  | [], _ => rfl
  | p :: r, h => by
    have h1 := h p (by simp)
    have h2 := cost_eq (ls := r) (fun y hy => h y (List.mem_cons_of_mem _ hy))
    have h3 : p.2 * p.1.cost = (upT p : Int) - (dnT p : Int) := by
      unfold upT dnT
      split
      · rename_i hc
        have : 0 ≤ p.2 * -p.1.cost := Int.mul_nonneg h1 (by omega)
        rw [Int.mul_neg] at this ⊢
        omega
      · rename_i hc
        have : 0 ≤ p.2 * p.1.cost := Int.mul_nonneg h1 (by omega)
        omega
    unfold costL upN dnN at *
    simp only [List.map_cons, List.sum_cons]
    omega

/-- What flows costs no more than what is full. -/
theorem zip_small {n : Int} {es : List Ed} {l : List Int} (h : ∀ e ∈ es, Perm n e) (hf : ∀ p ∈ es.zip l, Fits p) : ∀ p ∈ es.zip l, SmallT p := by
  intro p hp
  have h1 := h p.1 (List.of_mem_zip hp).1
  have h2 := hf p hp
  unfold Perm at h1
  unfold Fits at h2
  unfold SmallT
  omega
theorem part_le : ∀ {es : List Ed} {l : List Int}, (∀ p ∈ es.zip l, Fits p) → (∀ e ∈ es, 0 ≤ e.cap) → upN (es.zip l) ≤ upN (full es) ∧ dnN (es.zip l) ≤ dnN (full es)
  | [], l, _, _ => by simp [full, upN, dnN]
  | e :: r, [], _, _ => by simp [upN, dnN]
  | e :: r, f :: m, h, hc => by
    have h1 : Fits (e, f) := h _ (by simp)
    have h2 := part_le (es := r) (l := m) (fun p hp => h p (by simp [hp])) (fun e he => hc e (List.mem_cons_of_mem _ he))
    have h3 : upT (e, f) ≤ upT (e, e.cap) ∧ dnT (e, f) ≤ dnT (e, e.cap) := by
      unfold Fits at h1
      unfold upT dnT
      simp only at h1 ⊢
      constructor <;> split
      · simp
      · have := Int.mul_le_mul_of_nonneg_right h1.2 (show 0 ≤ e.cost by omega)
        omega
      · have := Int.mul_le_mul_of_nonneg_right h1.2 (show 0 ≤ -e.cost by omega)
        omega
      · simp
    unfold upN dnN full at *
    simp only [List.zip_cons_cons, List.map_cons, List.sum_cons]
    omega
theorem WithinP.cost {n : Int} {es : List Ed} {l : List Int} (h : WithinP n es l) : upN (es.zip l) ≤ 4611686018427387904 ∧ dnN (es.zip l) ≤ 4611686018427387904 ∧ costL (es.zip l) = (upN (es.zip l) : Int) - (dnN (es.zip l) : Int) := by
  have h1 := part_le h.2.2 (fun e he => (h.1.2.2.2.1 e he).2.2.2.2.1)
  have h2 := h.1.2.2.2.2
  exact ⟨by omega, by omega, cost_eq fun p hp => (h.2.2 p hp).1⟩
end Go.Proofs.Ytmdjgkclbjbdiaa
