/- What a device holds in DeviceKeeps: behind some writes, the flush, more writes, the power's going and coming; conditions: at most 1000 writes. -/
import Derived.Test.YtcgecjedgbmmkaaDevWorks
import Derived.Test.YtcgecjedgbmmkaaDevArgs
namespace Go.Proofs.Ytcgecjedgbmmkaa
open Go.RowKit Go.Maps

/-- Behind r of the first writes. -/
def KD1 (sure : List UInt8) (r : Nat) (D : Dv) : Prop := D.on = true ∧ D.left = -1 ∧ D.bk.length = sure.length ∧
  ∀ (k : Nat) (x : Bk), D.bk[k]? = some x → x.loose.length ≤ 1 ∧ (r ≤ k → x.loose = []) ∧ (k < r → ∀ c, sure[k]? = some c → x.stands = fullOf c)
/-- Behind the flush and r more. -/
def KD2 (sure : List UInt8) (ws : List (UInt8 × UInt8)) (r : Nat) (on : Bool) (D : Dv) : Prop := D.on = on ∧ D.left = -1 ∧ D.bk.length = sure.length ∧
  ∀ (k : Nat) (x : Bk), D.bk[k]? = some x → x.loose.length ≤ r ∧ (∀ c, sure[k]? = some c → x.sure = fullOf c) ∧ ∀ y ∈ x.loose, ∃ (i : Nat) (p : UInt8 × UInt8), ws[i]? = some p ∧ p.1.toNat % sure.length = k ∧ y = fullOf p.2
/-- Behind On. -/
def KD3 (sure : List UInt8) (ws : List (UInt8 × UInt8)) (way : Nat) (D : Dv) : Prop := D.on = true ∧ D.bk.length = sure.length ∧
  ∀ (k : Nat) (x : Bk), D.bk[k]? = some x → x.loose = [] ∧ ∀ c, sure[k]? = some c → (x.sure = fullOf c ∨ way = 0 ∧ ∃ (i : Nat) (p : UInt8 × UInt8), ws[i]? = some p ∧ p.1.toNat % sure.length = k ∧ x.sure = fullOf p.2)

def KI1 (w0 : World) (b : Nat) (sure : List UInt8) (r : Nat) (w : World) : Prop := ∃ D, Mine w0 w b D ∧ KD1 sure r D
def KB1 (w0 : World) (b : Nat) (sure : List UInt8) (r : Nat) (v : Value) (l : Bytes) (w : World) : Prop := ∃ D, MineB w0 w b D v l ∧ KD1 sure r D
def KI2 (w0 : World) (b : Nat) (sure : List UInt8) (ws : List (UInt8 × UInt8)) (r : Nat) (on : Bool) (w : World) : Prop := ∃ D, Mine w0 w b D ∧ KD2 sure ws r on D
def KB2 (w0 : World) (b : Nat) (sure : List UInt8) (ws : List (UInt8 × UInt8)) (r : Nat) (v : Value) (l : Bytes) (w : World) : Prop := ∃ D, MineB w0 w b D v l ∧ KD2 sure ws r true D

section
variable {w0 w : World} {b r : Nat} {sure : List UInt8} {ws : List (UInt8 × UInt8)} {v : Value} {l : Bytes}

theorem KI1.under (h : KI1 w0 b sure r w) : Below w0.heap.size w0 w := let ⟨_, h, _⟩ := h; h.under
theorem KB1.under (h : KB1 w0 b sure r v l w) : Below w0.heap.size w0 w := let ⟨_, h, _⟩ := h; h.mine.under
theorem KI2.under {on : Bool} (h : KI2 w0 b sure ws r on w) : Below w0.heap.size w0 w := let ⟨_, h, _⟩ := h; h.under
theorem KB2.under (h : KB2 w0 b sure ws r v l w) : Below w0.heap.size w0 w := let ⟨_, h, _⟩ := h; h.mine.under
theorem KI2.drew {on : Bool} (h : KI2 w0 b sure ws r on w) : KI2 w0 b sure ws r on w.drew := let ⟨D, h, hd⟩ := h; ⟨D, h.later (Below.refl _ w).drew, hd⟩

theorem k_new (w : World) (h1 : 0 < sure.length) (h2 : sure.length ≤ 30) : Calls Try.prog 9 #[.int .i64 (sure.length : Int)] w fun e w' => ∃ b, e = .returned (.tuple #[ptr b, err 0]) ∧ KI1 w b sure 0 w' := by
  refine (m_new sure.length w h1 (by omega)).mono ?_
  rintro e w' ⟨b, rfl, hm⟩
  refine ⟨b, rfl, _, hm, rfl, rfl, List.length_replicate, fun k x hx => ?_⟩
  obtain ⟨rfl, _⟩ := fresh_get hx
  exact ⟨Nat.zero_le _, fun _ => rfl, fun h => by omega⟩

theorem k_full1 (h : KI1 w0 b sure r w) (c : UInt8) : Calls Try.prog 15 #[.int .u8 (c.toNat : Int)] w fun e w' => ∃ g, e = .returned (.slice (some ⟨g, 0, none⟩) 512 512) ∧ KB1 w0 b sure r (.slice (some ⟨g, 0, none⟩) 512 512) (fullOf c) w' := by
  obtain ⟨D, h, hd⟩ := h
  refine (m_full h c).mono ?_
  rintro e w' ⟨g, rfl, hm⟩
  exact ⟨g, rfl, D, hm, hd⟩

theorem k_write1 {c : UInt8} (h : KB1 w0 b sure r v (fullOf c) w) (hc : sure[r]? = some c) : Calls Try.prog 14 #[ptr b, .int .i64 (r : Int), v] w fun e w' => e = .returned (err 0) ∧ KI1 w0 b sure (r + 1) w' := by
  obtain ⟨D, h, ho, hl, hlen, hd⟩ := h
  have hr := (List.getElem?_eq_some_iff.1 hc).1
  refine (m_write h (filled_length c c) ho (by omega) (by omega) (fun k x hx => by have := (hd k x hx).1; omega)).mono ?_
  rintro e w' ⟨rfl, hm⟩
  refine ⟨rfl, _, hm, ho, ?_, by rw [wrote_length]; exact hlen, fun k x hx => ?_⟩
  · show spent D.left = -1
    rw [hl]; rfl
  rw [wrote_get] at hx
  by_cases hk : k = r
  · subst hk
    rw [if_pos rfl] at hx
    obtain ⟨y, hy, rfl⟩ := Option.map_eq_some_iff.1 hx
    have h0 := (hd k y hy).2.1 (Nat.le_refl _)
    refine ⟨by simp [h0], fun hh => by omega, fun _ c' hc' => ?_⟩
    rw [hc] at hc'
    cases hc'
    simp [Bk.stands]
  · rw [if_neg hk] at hx
    obtain ⟨g1, g2, g3⟩ := hd k x hx
    exact ⟨g1, fun hh => g2 (by omega), fun hh => g3 (by omega)⟩

theorem k_flush (h : KI1 w0 b sure sure.length w) : Calls Try.prog 16 #[ptr b] w fun e w' => e = .returned (err 0) ∧ KI2 w0 b sure ws 0 true w' := by
  obtain ⟨D, h, ho, hl, hlen, hd⟩ := h
  refine (m_flush h ho (by omega) (fun k x hx => by have := (hd k x hx).1; omega)).mono ?_
  rintro e w' ⟨rfl, hm⟩
  refine ⟨rfl, _, hm, ho, ?_, by simp [flushed, hlen], fun k x hx => ?_⟩
  · show spent D.left = -1
    rw [hl]; rfl
  simp only [flushed, List.getElem?_map] at hx
  obtain ⟨y, hy, rfl⟩ := Option.map_eq_some_iff.1 hx
  have hk := (List.getElem?_eq_some_iff.1 hy).1
  exact ⟨Nat.zero_le _, fun c hc => (hd k y hy).2.2 (by omega) c hc, fun y hy => by cases hy⟩

theorem k_full2 (h : KI2 w0 b sure ws r true w) (c : UInt8) : Calls Try.prog 15 #[.int .u8 (c.toNat : Int)] w fun e w' => ∃ g, e = .returned (.slice (some ⟨g, 0, none⟩) 512 512) ∧ KB2 w0 b sure ws r (.slice (some ⟨g, 0, none⟩) 512 512) (fullOf c) w' := by
  obtain ⟨D, h, hd⟩ := h
  refine (m_full h c).mono ?_
  rintro e w' ⟨g, rfl, hm⟩
  exact ⟨g, rfl, D, hm, hd⟩

theorem k_write2 {p : UInt8 × UInt8} (h : KB2 w0 b sure ws r v (fullOf p.2) w) (hp : ws[r]? = some p) (hn : 0 < sure.length) (hr : r ≤ 1000) :
    Calls Try.prog 14 #[ptr b, .int .i64 ((p.1.toNat % sure.length : Nat) : Int), v] w fun e w' => e = .returned (err 0) ∧ KI2 w0 b sure ws (r + 1) true w' := by
  obtain ⟨D, h, ho, hl, hlen, hd⟩ := h
  have hk : p.1.toNat % sure.length < sure.length := Nat.mod_lt _ hn
  refine (m_write h (filled_length p.2 p.2) ho (by omega) (by omega) (fun k x hx => by have := (hd k x hx).1; omega)).mono ?_
  rintro e w' ⟨rfl, hm⟩
  refine ⟨rfl, _, hm, ho, ?_, by rw [wrote_length]; exact hlen, fun k x hx => ?_⟩
  · show spent D.left = -1
    rw [hl]; rfl
  rw [wrote_get] at hx
  by_cases hkk : k = p.1.toNat % sure.length
  · subst hkk
    rw [if_pos rfl] at hx
    obtain ⟨y, hy, rfl⟩ := Option.map_eq_some_iff.1 hx
    obtain ⟨g1, g2, g3⟩ := hd _ y hy
    refine ⟨by simp; omega, g2, fun z hz => ?_⟩
    rcases List.mem_append.1 hz with hz | hz
    · exact g3 z hz
    · simp at hz
      exact ⟨r, p, hp, rfl, hz⟩
  · rw [if_neg hkk] at hx
    obtain ⟨g1, g2, g3⟩ := hd k x hx
    exact ⟨by omega, g2, g3⟩

theorem k_off (h : KI2 w0 b sure ws r true w) : Calls Try.prog 17 #[ptr b] w fun e w' => e = .returned (err 0) ∧ KI2 w0 b sure ws r false w' := by
  obtain ⟨D, h, ho, hl, hlen, hd⟩ := h
  refine (m_off h ho).mono ?_
  rintro e w' ⟨rfl, hm⟩
  exact ⟨rfl, _, hm, rfl, hl, hlen, hd⟩

theorem picked_in (x : Bk) (n : Nat) : x.picked n = x.sure ∨ x.picked n ∈ x.loose := by
  unfold Bk.picked
  split
  · exact .inl rfl
  · rcases h : x.loose[n - 1]? with _ | y
    · exact .inl rfl
    · exact .inr (List.mem_of_getElem? h)

theorem k_on {l : List Int} (h : KI2 w0 b sure ws r false w) (hr : r ≤ 1000) (hv : Iv w0 v l) : Calls Try.prog 18 #[ptr b, v] w fun e w' => e = .returned (err 0) ∧ ∃ D, Mine w0 w' b D ∧ KD3 sure ws 0 D := by
  obtain ⟨D, h, ho, hl, hlen, hd⟩ := h
  refine (m_on (h.old hv) ho (fun k x hx => by have := (hd k x hx).1; omega)).mono ?_
  rintro e w' ⟨rfl, hm⟩
  refine ⟨rfl, _, hm, rfl, by rw [comes_length]; exact hlen, fun k x hx => ?_⟩
  have hk : k < D.bk.length := by
    have := (List.getElem?_eq_some_iff.1 hx).1
    rw [comes_length] at this
    exact this
  obtain ⟨y, hy⟩ : ∃ y, D.bk[k]? = some y := ⟨_, List.getElem?_eq_getElem hk⟩
  rw [comes_at _ _ _ _ hy] at hx
  cases hx
  obtain ⟨g1, g2, g3⟩ := hd k y hy
  refine ⟨rfl, fun c hc => ?_⟩
  split
  · exact .inl (g2 c hc)
  · rcases picked_in y (pickAt l (cnt D.bk k) y.loose.length) with h1 | h1
    · exact .inl (by rw [h1]; exact g2 c hc)
    · obtain ⟨i, p, h2, h3, h4⟩ := g3 _ h1
      exact .inr ⟨rfl, i, p, h2, h3, h4⟩

theorem k_on0 (h : KI2 w0 b sure ws r false w) (hr : r ≤ 1000) : Calls Try.prog 18 #[ptr b, nilSl] w fun e w' => e = .returned (err 0) ∧ ∃ D, Mine w0 w' b D ∧ KD3 sure ws 1 D := by
  obtain ⟨D, h, ho, hl, hlen, hd⟩ := h
  refine (m_on h.noI ho (fun k x hx => by have := (hd k x hx).1; omega)).mono ?_
  rintro e w' ⟨rfl, hm⟩
  refine ⟨rfl, _, hm, rfl, by rw [comes_length]; exact hlen, fun k x hx => ?_⟩
  have hk : k < D.bk.length := by
    have := (List.getElem?_eq_some_iff.1 hx).1
    rw [comes_length] at this
    exact this
  obtain ⟨y, hy⟩ : ∃ y, D.bk[k]? = some y := ⟨_, List.getElem?_eq_getElem hk⟩
  rw [comes_at _ _ _ _ hy] at hx
  cases hx
  obtain ⟨g1, g2, g3⟩ := hd k y hy
  refine ⟨rfl, fun c hc => .inl ?_⟩
  have : pickAt [] (cnt D.bk k) y.loose.length = 0 := by simp [pickAt, pickN_zero]
  rw [this]
  show (if y.loose = [] then y.sure else y.picked 0) = fullOf c
  have h0 : y.picked 0 = y.sure := if_pos rfl
  rw [h0, ite_self]
  exact g2 c hc

/-- The check of one block. -/
theorem k_full3 {D : Dv} (h : Mine w0 w b D) (c : UInt8) : Calls Try.prog 15 #[.int .u8 (c.toNat : Int)] w fun e w' => ∃ g, e = .returned (.slice (some ⟨g, 0, none⟩) 512 512) ∧ MineB w0 w' b D (.slice (some ⟨g, 0, none⟩) 512 512) (fullOf c) := m_full h c

theorem k_stands {D : Dv} {way k : Nat} {x : Bk} (h : MineB w0 w b D v l) (hd : KD3 sure ws way D) (hx : D.bk[k]? = some x) :
    Calls Try.prog 19 #[ptr b, .int .i64 (k : Int), v] w fun e w' => e = .returned (.bool (decide (x.sure = l))) ∧ Mine w0 w' b D := by
  refine (stands_b h hd.1 hx).mono ?_
  rintro e w' ⟨rfl, hm⟩
  rw [Bk.stands_nil (hd.2.2 k x hx).1]
  exact ⟨rfl, hm⟩
end
end Go.Proofs.Ytcgecjedgbmmkaa
