/- Each call of a device: one answer and one device behind it, whatever stands; conditions: it lies in memory; fewer than 2^32 things are loose in each block. -/
import Derived.Test.YtcpapdpnnlnemaaDevOwn
namespace Go.Proofs.Ytcpapdpnnlnemaa
open Go.RowKit Go.Maps

/-- Is there no such block, or are these no block's bytes? -/
def noSuch (D : Dv) (k : Int) (l : Bytes) : Prop := k < 0 ∨ (D.bk.length : Int) ≤ k ∨ l.length ≠ 512
instance (D : Dv) (k : Int) (l : Bytes) : Decidable (noSuch D k l) := by unfold noSuch; infer_instance

def wcode (D : Dv) (k : Int) (l : Bytes) : Int := if D.on = false then 8 else if noSuch D k l then 1 else if D.left = 0 then 8 else 0
def wdev (D : Dv) (k : Int) (l : Bytes) : Dv := if D.on = false then D else if noSuch D k l then D else if D.left = 0 then ⟨D.bk, false, D.left⟩ else ⟨wrote D.bk k.toNat l, D.on, spent D.left⟩
def fcode (D : Dv) : Int := if D.on = false then 8 else if D.left = 0 then 8 else 0
def fdev (D : Dv) : Dv := if D.on = false then D else if D.left = 0 then ⟨D.bk, false, D.left⟩ else ⟨flushed D.bk, D.on, spent D.left⟩
def acode (D : Dv) : Int := if D.on = false then 8 else 0
def adev (D : Dv) (n : Int) : Dv := if D.on = false then D else ⟨D.bk, D.on, max n (-1)⟩
def ocode (D : Dv) : Int := if D.on = false then 8 else 0
def odev (D : Dv) : Dv := if D.on = false then D else ⟨D.bk, false, D.left⟩
def ncode (D : Dv) : Int := if D.on = false then 0 else 3
def ndev (D : Dv) (l : List Int) : Dv := if D.on = false then ⟨comes D.bk l, true, -1⟩ else D

/-- What a device's call answers and leaves. -/
def DSteps (w : World) (b : Nat) (F : Nat → Prop) (c : Int) (D' : Dv) (e : Ending) (w' : World) : Prop := e = .returned (err c) ∧ Dev w' b D' (Grow F w w') ∧ Only F w w'
section
variable {w w' : World} {b : Nat} {D D' : Dv} {F : Nat → Prop}

theorem Dev.fb (h : Dev w b D F) : F b := by obtain ⟨sb, mb, sv, lv, Dm, h⟩ := h; exact h.fb
theorem grow_lt (hF : ∀ q, F q → q < w.heap.size) (hs : w.heap.size ≤ w'.heap.size) : ∀ q, Grow F w w' q → q < w'.heap.size := fun q hq => by
  rcases hq with hq | hq
  · have := hF q hq; omega
  · exact hq.2
theorem d_grow (h0 : Dev w b D F) (h : Dev w' b D' F) (ho : Only (· = b) w w') : Dev w' b D' (Grow F w w') ∧ Only F w w' :=
  ⟨h.widen (fun _ hq => .inl hq) (grow_lt h0.fl ho.size), ho.mono fun _ _ e => e ▸ h0.fb⟩
theorem d_same (h0 : Dev w b D F) : Dev w b D (Grow F w w) ∧ Only F w w := ⟨h0.widen (fun _ hq => .inl hq) (grow_lt h0.fl (Nat.le_refl _)), Only.refl _ _⟩
theorem d_later (h0 : Dev w b D F) (hb : Below w.heap.size w w') : Dev w' b D (Grow F w w') ∧ Only F w w' := ⟨(h0.below hb).widen (fun _ hq => .inl hq) (grow_lt h0.fl hb.size), Only.of_below hb F⟩
theorem nosuch_not {k : Int} {l : Bytes} (h : ¬ noSuch D k l) : ∃ n x, k = (n : Nat) ∧ D.bk[n]? = some x ∧ l.length = 512 := by
  have h1 : ¬ k < 0 := fun e => h (.inl e)
  have h2 : ¬ (D.bk.length : Int) ≤ k := fun e => h (.inr (.inl e))
  have h3 : ¬ l.length ≠ 512 := fun e => h (.inr (.inr e))
  exact ⟨k.toNat, D.bk[k.toNat]'(by omega), by omega, List.getElem?_eq_getElem (by omega), by omega⟩

theorem dwrite_any (h : Dev w b D F) (hs : Small D) (k : Int) {v : Value} {l : Bytes} (hv : Bs w v l) (hoff : ∀ q, v.ownBlock = some q → ¬ F q) :
    Calls Try.prog 19 #[ptr b, .int .i64 k, v] w (DSteps w b F (wcode D k l) (wdev D k l)) := by
  unfold wcode wdev
  by_cases ho : D.on = false
  · rw [if_pos ho, if_pos ho]
    refine (write_off h ho k v).mono ?_
    rintro e w' ⟨rfl, rfl⟩
    exact ⟨rfl, d_same h⟩
  have ho' : D.on = true := by simpa using ho
  rw [if_neg ho, if_neg ho]
  by_cases hn : noSuch D k l
  · rw [if_pos hn, if_pos hn]
    by_cases hk : k < 0 ∨ (D.bk.length : Int) ≤ k
    · refine (write_no h ho' k hk v).mono ?_
      rintro e w' ⟨rfl, rfl⟩
      exact ⟨rfl, d_same h⟩
    · obtain ⟨n, rfl⟩ : ∃ n : Nat, k = n := ⟨k.toNat, by omega⟩
      have hl : l.length ≠ 512 := by
        rcases hn with h1 | h1 | h1
        · exact absurd (.inl h1) hk
        · exact absurd (.inr h1) hk
        · exact h1
      refine (write_short h ho' n (by omega) hv hl).mono ?_
      rintro e w' ⟨rfl, rfl⟩
      exact ⟨rfl, d_same h⟩
  rw [if_neg hn, if_neg hn]
  obtain ⟨n, x, rfl, hx, hl⟩ := nosuch_not hn
  have hk := (List.getElem?_eq_some_iff.1 hx).1
  by_cases hz : D.left = 0
  · rw [if_pos hz, if_pos hz]
    refine (write_dies h ho' hz n hk hv hl).mono ?_
    rintro e w' ⟨rfl, hd, hon⟩
    exact ⟨rfl, d_grow h hd hon⟩
  · rw [if_neg hz, if_neg hz]
    exact write_ok h ho' hz hx (hs n x hx) hv hl hoff

theorem dflush_any (h : Dev w b D F) (hs : Small D) : Calls Try.prog 30 #[ptr b] w (DSteps w b F (fcode D) (fdev D)) := by
  unfold fcode fdev
  by_cases ho : D.on = false
  · rw [if_pos ho, if_pos ho]
    refine (flush_off h ho).mono ?_
    rintro e w' ⟨rfl, rfl⟩
    exact ⟨rfl, d_same h⟩
  have ho' : D.on = true := by simpa using ho
  rw [if_neg ho, if_neg ho]
  by_cases hz : D.left = 0
  · rw [if_pos hz, if_pos hz]
    refine (flush_dies h ho' hz).mono ?_
    rintro e w' ⟨rfl, hd, hon⟩
    exact ⟨rfl, d_grow h hd hon⟩
  · rw [if_neg hz, if_neg hz]
    exact flush_ok h ho' hz hs
theorem darm_any (h : Dev w b D F) (n : Int) (hn : n ≤ 9223372036854775807) : Calls Try.prog 13 #[ptr b, .int .i64 n] w (DSteps w b F (acode D) (adev D n)) := by
  unfold acode adev
  by_cases ho : D.on = false
  · rw [if_pos ho, if_pos ho]
    refine (arm_off h ho n).mono ?_
    rintro e w' ⟨rfl, rfl⟩
    exact ⟨rfl, d_same h⟩
  · have ho' : D.on = true := by simpa using ho
    rw [if_neg ho, if_neg ho]
    refine (arm_on h ho' n hn).mono ?_
    rintro e w' ⟨rfl, hd, hon⟩
    exact ⟨rfl, d_grow h hd hon⟩
theorem doff_any (h : Dev w b D F) : Calls Try.prog 15 #[ptr b] w (DSteps w b F (ocode D) (odev D)) := by
  unfold ocode odev
  by_cases ho : D.on = false
  · rw [if_pos ho, if_pos ho]
    refine (off_off h ho).mono ?_
    rintro e w' ⟨rfl, rfl⟩
    exact ⟨rfl, d_same h⟩
  · have ho' : D.on = true := by simpa using ho
    rw [if_neg ho, if_neg ho]
    refine (off_on h ho').mono ?_
    rintro e w' ⟨rfl, hd, hon⟩
    exact ⟨rfl, d_grow h hd hon⟩
theorem don_any (h : Dev w b D F) (hs : Small D) {v : Value} {l : List Int} (hv : Iv w v l) (hoff : l ≠ [] → ∀ q, v.ownBlock = some q → ¬ F q) : Calls Try.prog 17 #[ptr b, v] w (DSteps w b F (ncode D) (ndev D l)) := by
  unfold ncode ndev
  by_cases ho : D.on = false
  · rw [if_pos ho, if_pos ho]
    exact on_ok h ho hs hv hoff
  · have ho' : D.on = true := by simpa using ho
    rw [if_neg ho, if_neg ho]
    refine (on_on h ho' hv).mono ?_
    rintro e w' ⟨rfl, hb⟩
    exact ⟨rfl, d_later h hb⟩
end

/-- At most n things are loose in each block. -/
def Upto (D : Dv) (n : Nat) : Prop := ∀ (k : Nat) (x : Bk), D.bk[k]? = some x → x.loose.length ≤ n
theorem Upto.small {D : Dv} {n : Nat} (h : Upto D n) (hn : n < 4294967296) : Small D := fun k x hx => by have := h k x hx; omega
theorem Upto.more {D : Dv} {n m : Nat} (h : Upto D n) (hn : n ≤ m) : Upto D m := fun k x hx => by have := h k x hx; omega

theorem wdev_upto {D : Dv} {n : Nat} (h : Upto D n) (k : Int) (l : Bytes) : Upto (wdev D k l) (n + 1) ∧ (wdev D k l).bk.length = D.bk.length := by
  unfold wdev
  split
  · exact ⟨h.more (by omega), rfl⟩
  split
  · exact ⟨h.more (by omega), rfl⟩
  split
  · exact ⟨fun j x hx => by have := h j x hx; omega, rfl⟩
  · refine ⟨fun j x hx => ?_, wrote_length _ _ _⟩
    simp only [wrote_get] at hx
    split at hx
    · obtain ⟨y, hy, rfl⟩ := Option.map_eq_some_iff.1 hx
      have := h j y hy
      simp
      omega
    · have := h j x hx
      omega
theorem fdev_upto {D : Dv} {n : Nat} (h : Upto D n) : Upto (fdev D) (n + 1) ∧ (fdev D).bk.length = D.bk.length := by
  unfold fdev
  split
  · exact ⟨h.more (by omega), rfl⟩
  split
  · exact ⟨fun j x hx => by have := h j x hx; omega, rfl⟩
  · refine ⟨fun j x hx => ?_, flushed_length _⟩
    simp only [flushed, List.getElem?_map] at hx
    obtain ⟨y, hy, rfl⟩ := Option.map_eq_some_iff.1 hx
    simp
theorem adev_upto {D : Dv} {n : Nat} (h : Upto D n) (m : Int) : Upto (adev D m) (n + 1) ∧ (adev D m).bk.length = D.bk.length := by
  unfold adev
  split
  · exact ⟨h.more (by omega), rfl⟩
  · exact ⟨fun j x hx => by have := h j x hx; omega, rfl⟩
theorem odev_upto {D : Dv} {n : Nat} (h : Upto D n) : Upto (odev D) (n + 1) ∧ (odev D).bk.length = D.bk.length := by
  unfold odev
  split
  · exact ⟨h.more (by omega), rfl⟩
  · exact ⟨fun j x hx => by have := h j x hx; omega, rfl⟩
theorem ndev_upto {D : Dv} {n : Nat} (h : Upto D n) (l : List Int) : Upto (ndev D l) (n + 1) ∧ (ndev D l).bk.length = D.bk.length := by
  unfold ndev
  split
  · refine ⟨fun j x hx => ?_, comes_length _ _⟩
    have hj := (List.getElem?_eq_some_iff.1 hx).1
    simp only [comes_length] at hj
    have := comes_at D.bk l j _ (List.getElem?_eq_getElem hj)
    simp only [] at hx
    rw [this, Option.some.injEq] at hx
    subst hx
    simp
  · exact ⟨h.more (by omega), rfl⟩
end Go.Proofs.Ytcpapdpnnlnemaa
