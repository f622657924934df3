/- The statement NetSums: all that is over comes to 0, and the cost is within its bound; no condition. -/
import Derived.Test.YtohcoknnalgjnaaNtWorks
namespace Go.Proofs.Ytohcoknnalgjnaa
open Go.RowKit

theorem vast_any (n : Int) (es : List Ed) (fl : List Int) (w : World) {v x : Value} (he : Es w v es) (hf : Fs w x fl) :
    Calls Try.prog 9 #[netV n v, x] w fun e w' => e = .returned (.bool (decide (2000 < es.length ∨ 2000 < fl.length))) ∧ Below w.heap.size w w' := by
  obtain ⟨va, vc, rfl, -, -⟩ := he.shape
  obtain ⟨xa, xc, rfl, -, -⟩ := hf.shape
  clear he hf
  generalize es.length = L
  generalize fl.length = M
  have hb : Below w.heap.size w (w.alloc (.cells #[.int .i64 n, .slice va L vc] 24)) := (Below.refl _ _).alloc (Nat.le_refl _) _
  by_cases h1 : 2000 < L
  · rw [decide_eq_true (Or.inl h1)]
    have h1i : (2000 : Int) < (L : Int) := by omega
    have HB := Lib.hid hb
    clear hb h1
    go_enter Try.func9, Try.ntmps9
    go_wp2
    go_ret
    exact ⟨rfl, HB.out⟩
  by_cases h2 : 2000 < M
  · rw [decide_eq_true (Or.inr h2)]
    have h1i : ¬ (2000 : Int) < (L : Int) := by omega
    have h2i : (2000 : Int) < (M : Int) := by omega
    have HB := Lib.hid hb
    clear hb h1 h2
    go_enter Try.func9, Try.ntmps9
    go_wp2
    go_ret
    exact ⟨rfl, HB.out⟩
  rw [decide_eq_false (fun h => h.elim h1 h2)]
  have h1i : ¬ (2000 : Int) < (L : Int) := by omega
  have h2i : ¬ (2000 : Int) < (M : Int) := by omega
  have HB := Lib.hid hb
  clear hb h1 h2
  go_enter Try.func9, Try.ntmps9
  go_wp2
  go_ret
  exact ⟨rfl, HB.out⟩

/-- What comes to the first k nodes, less what goes. -/
def preT (k : Nat) (p : Ed × Int) : Int := (if p.1.to < (k : Int) then p.2 else 0) - (if p.1.fr < (k : Int) then p.2 else 0)
def pre (ls : Load) (k : Nat) : Int := (ls.map (preT k)).sum
theorem pre_zero : ∀ {ls : Load}, (∀ p ∈ ls, 0 ≤ p.1.to ∧ 0 ≤ p.1.fr) → pre ls 0 = 0
  | [], _ => rfl
  | p :: r, h => by
    have h1 := h p (by simp)
    have h2 := pre_zero (ls := r) (fun q hq => h q (List.mem_cons_of_mem _ hq))
    unfold pre at *
    simp only [List.map_cons, List.sum_cons, h2]
    unfold preT
    rw [if_neg (by omega), if_neg (by omega)]
    rfl
theorem pre_all {m : Nat} : ∀ {ls : Load}, (∀ p ∈ ls, p.1.to < (m : Int) ∧ p.1.fr < (m : Int)) → pre ls m = 0
  | [], _ => rfl
  | p :: r, h => by
    have h1 := h p (by simp)
    have h2 := pre_all (ls := r) (fun q hq => h q (List.mem_cons_of_mem _ hq))
    unfold pre at *
    simp only [List.map_cons, List.sum_cons, h2]
    unfold preT
    rw [if_pos h1.1, if_pos h1.2]
    omega
theorem pre_more (k : Nat) : ∀ (ls : Load), pre ls (k + 1) = pre ls k + ovr ls k
  | [] => rfl
  | p :: r => by
    have h2 := pre_more k r
    unfold pre ovr at *
    simp only [List.map_cons, List.sum_cons, h2]
    have : preT (k + 1) p = preT k p + ovT k p := by
      unfold preT ovT
      split <;> split <;> split <;> split <;> split <;> split <;> omega
    omega
theorem pre_le (k : Nat) : ∀ {ls : Load} (_ : ∀ p ∈ ls, SmallT p), -(ls.length * 4503599627370496 : Int) ≤ pre ls k ∧ pre ls k ≤ (ls.length * 4503599627370496 : Int)
  | [], _ => by simp [pre]
  | p :: r, h => by
    have h1 := h p (by simp)
    have h3 := pre_le k (ls := r) (fun q hq => h q (List.mem_cons_of_mem _ hq))
    have h2 : -4503599627370496 ≤ preT k p ∧ preT k p ≤ 4503599627370496 := by
      have := h1.1
      have := h1.2.1
      unfold preT
      constructor <;> split <;> split <;> omega
    unfold pre at *
    simp only [List.map_cons, List.sum_cons, List.length_cons]
    have : ((r.length + 1 : Nat) : Int) * 4503599627370496 = (r.length : Int) * 4503599627370496 + 4503599627370496 := by omega
    omega
instance (l : List Int) (k : Nat) : Decidable (NoneTo l k) := by unfold NoneTo; infer_instance
theorem NoneTo.iff {l : List Int} {k : Nat} {x : Int} (hx : l[k]? = some x) : NoneTo l (k + 1) ↔ NoneTo l k ∧ x = 0 := by
  unfold NoneTo
  rw [List.take_add_one, hx]
  constructor
  · intro h
    exact ⟨fun y hy => h y (by simp [hy]), h x (by simp)⟩
  · rintro ⟨h1, h2⟩ y hy
    rcases List.mem_append.1 hy with hy | hy
    · exact h1 y hy
    · have : y = x := by simpa using hy
      rw [this, h2]

/-- What stands while a statement goes on: a net and its flow. -/
structure NF (w : World) (c : Nat) (n : Int) (v x : Value) (es : List Ed) (fl : List Int) (W : World) : Prop where
  under : Below w.heap.size w W
  net : Cel W c [.int .i64 n, v] 24
  es : Es W v es
  fl : Fs W x fl
theorem NF.go {w : World} {c : Nat} {n : Int} {v x : Value} {es : List Ed} {fl : List Int} {W W' : World} (h : NF w c n v x es fl W) (hb : Below W.heap.size W W') : NF w c n v x es fl W' :=
  ⟨h.under.trans (hb.mono h.under.size), h.net.below hb h.net.lt, h.es.below hb, h.fl.below hb⟩
theorem NF.box {w : World} (n : Int) {v x : Value} {es : List Ed} {fl : List Int} (he : Es w v es) (hf : Fs w x fl) : NF w w.heap.size n v x es fl (w.alloc (.cells #[.int .i64 n, v] 24)) :=
  have hb : Below w.heap.size w (w.alloc (.cells #[.int .i64 n, v] 24)) := (Below.refl _ _).alloc (Nat.le_refl _) _
  ⟨hb, Cel.new w _ _, he.below hb, hf.below hb⟩

end Go.Proofs.Ytohcoknnalgjnaa
