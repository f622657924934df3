/- The walk of ShadowSpoilt: it returns true and writes nothing that was there; no condition. -/
import Derived.Test.YtcpapdpnnlnemaaShSpoil
import Derived.Test.YtcpapdpnnlnemaaCrTurn
namespace Go.Proofs.Ytcpapdpnnlnemaa
open Go.RowKit Go.Maps

theorem same_turned {L m : List UInt8} {p t : Nat} (h : Turned L m p t 32) (h0 : t = 0) : m = L := by
  subst h0
  refine leN_inj _ _ h.1 ?_
  rw [h.2]
  simp
theorem open_turned {L m : List UInt8} {p t : Nat} (hl : L.length = 512) (hr : rightB L = true) (ht : t < 4294967296) (hp : p ≤ 4096) (h : Turned L m p t 32) (h0 : t ≠ 0) : openV m = (0, [], 9) := by
  apply openV_spoilt
  rintro ⟨-, h1⟩
  rw [turned_right (by omega) hr ht (by omega) h, decide_eq_false h0] at h1
  cases h1

/-- A device that the walk made, and a block's bytes in a block g of their own. -/
def Spo (w0 w : World) (b : Nat) (D : Dv) (g : Nat) (m : Bytes) : Prop := ∃ F, Dev w b D F ∧ (∀ q, F q → w0.heap.size ≤ q) ∧ Below w0.heap.size w0 w ∧ ¬ F g ∧ w0.heap.size ≤ g ∧ Cel w g (bvs m) 5

section
variable {w0 w : World} {b g n : Nat} {D : Dv} {m : Bytes}
theorem Spo.set (h : Spo w0 w b D g m) (i : Nat) (x : UInt8) : Spo w0 (w.setCell ⟨g, i, none⟩ (bv x)) b D g (m.set i x) := by
  obtain ⟨F, h1, h2, h3, h4, h5, h6⟩ := h
  have ho : Only (· = g) w (w.setCell ⟨g, i, none⟩ (bv x)) := (Only.refl (· = g) w).setCell (p := ⟨g, i, none⟩) (.inl rfl) _
  refine ⟨F, h1.other ho fun q hq e => h4 (e ▸ hq), h2, h3.setCell (p := ⟨g, i, none⟩) h5 _, h4, h5, ?_⟩
  have := h6.set i (bv x)
  unfold bvs at *
  rw [List.map_set]
  exact this
theorem spo_read (h : Own w0 w b D fun _ => True) (ho : D.on = true) {k : Nat} {x : Bk} (hx : D.bk[k]? = some x) : Calls Try.prog 24 #[ptr b, .int .i64 (k : Int)] w fun e w' => ∃ g, e = .returned (.tuple #[.slice (some ⟨g, 0, none⟩) 512 512, err 0]) ∧ Spo w0 w' b D g x.stands := by
  obtain ⟨F, P, h1, h2, h3, h4, h5⟩ := h
  refine (read_ok h1 ho hx).mono ?_
  rintro e w' ⟨g, rfl, hc, hg, hb⟩
  have hz := h3.size
  exact ⟨g, rfl, F, h1.below hb, h2, h3.trans (hb.mono hz), fun hf => by have := h1.fl g hf; omega, by omega, hc⟩
theorem Spo.get (h : Spo w0 w b D g m) {i : Nat} {y : UInt8} (hy : m[i]? = some y) : w.cell? ⟨g, i, none⟩ = some (.int .u8 (y.toNat : Int)) ∧ w.frozen? ⟨g, i, none⟩ = false := by
  obtain ⟨F, h1, h2, h3, h4, h5, h6⟩ := h
  refine ⟨?_, h6.frozen i⟩
  rw [h6.cell]
  simp [bvs, hy, bv]
theorem Spo.own (h : Spo w0 w b D g m) (hl : m.length = 512) : Own w0 w b D (fun W => Bs W (.slice (some ⟨g, 0, none⟩) 512 512) m) := by
  obtain ⟨F, h1, h2, h3, h4, h5, h6⟩ := h
  refine ⟨F, fun q => q = g, h1, h2, h3, fun q e => ⟨e ▸ h6.lt, e ▸ h4⟩, fun W hk => Blk.bs ⟨g, rfl, h6.kept (hk g rfl), hl⟩⟩
theorem spo_write (h : Spo w0 w b D g m) (hl : m.length = 512) (hu : Upto D n) (hn : n < 1000000) (k : Int) : Calls Try.prog 19 #[ptr b, .int .i64 k, .slice (some ⟨g, 0, none⟩) 512 512] w fun e w' => e = .returned (err (wcode D k m)) ∧ Own w0 w' b (wdev D k m) (fun W => Bs W (.slice (some ⟨g, 0, none⟩) 512 512) m) := by
  have h0 := h.own hl
  obtain ⟨F, h1, h2, h3, h4, h5, h6⟩ := h
  have hbs : Bs w (.slice (some ⟨g, 0, none⟩) 512 512) m := Blk.bs ⟨g, rfl, h6, hl⟩
  refine (dwrite_any h1 (hu.small (by omega)) k hbs fun q e => by cases e; exact h4).mono ?_
  rintro e w' ⟨rfl, hd, ho⟩
  have hz := h3.size
  exact ⟨rfl, _, fun q => q = g, hd, fun q hq => hq.elim (h2 q) fun hq => by omega, h3.trans (ho.below hz h2), fun q e => ⟨e ▸ Nat.lt_of_lt_of_le h6.lt ho.size, fun hf => by subst e; rcases hf with hf | hf; exact h4 hf; have := h6.lt; omega⟩, fun W hk => Blk.bs ⟨g, rfl, (h6.only ho h4).kept (hk g rfl), hl⟩⟩
end

set_option maxRecDepth 1000000 in
theorem spoilt_few {x y : Value} {one two : Bytes} (g : Nat) (older : Bool) (at_ t : Nat) (w : World) (h1 : Bs w x one) (h2 : Bs w y two) (h : 480 < one.length ∨ 480 < two.length ∨ g < 1 ∨ 2305843009213693952 < g) :
    Calls Try.prog 5 #[.int .u64 (g : Int), x, y, .bool older, .int .u16 (at_ : Int), .int .u32 (t : Int)] w (Yes w) := by
  obtain ⟨a1, c1, rfl, _⟩ := h1.shape
  obtain ⟨a2, c2, rfl, _⟩ := h2.shape
  clear h1 h2
  by_cases h1 : 480 < one.length
  · have h1' : (480 : Int) < (one.length : Int) := by omega
    clear h h1
    go_enter Try.func5, Try.ntmps5
    go_wp2_with fail
    refine (works_any _).mono ?_
    rintro e w1 ⟨rfl, hb⟩
    go_wp2
    go_ret
    exact ⟨rfl, hb⟩
  have h1' : (one.length : Int) ≤ 480 := by omega
  by_cases h2 : 480 < two.length
  · have h2' : (480 : Int) < (two.length : Int) := by omega
    clear h h1 h2
    go_enter Try.func5, Try.ntmps5
    go_wp2_with fail
    refine (works_any _).mono ?_
    rintro e w1 ⟨rfl, hb⟩
    go_wp2
    go_ret
    exact ⟨rfl, hb⟩
  have h2' : (two.length : Int) ≤ 480 := by omega
  by_cases h3 : g < 1
  · have h3' : (g : Int) < 1 := by omega
    clear h h1 h2 h3
    go_enter Try.func5, Try.ntmps5
    go_wp2_with fail
    refine (works_any _).mono ?_
    rintro e w1 ⟨rfl, hb⟩
    go_wp2
    go_ret
    exact ⟨rfl, hb⟩
  have h3' : ¬ (g : Int) < 1 := by omega
  have h4' : (2305843009213693952 : Int) < (g : Int) := by omega
  clear h h1 h2 h3
  go_enter Try.func5, Try.ntmps5
  go_wp2_with fail
  refine (works_any _).mono ?_
  rintro e w1 ⟨rfl, hb⟩
  go_wp2
  go_ret
  exact ⟨rfl, hb⟩
end Go.Proofs.Ytcpapdpnnlnemaa
