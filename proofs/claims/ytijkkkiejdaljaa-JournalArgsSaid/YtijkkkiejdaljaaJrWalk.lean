/- A journal that a statement has made for itself, on a device of its own: what its calls answer; conditions: the sizes that each contract names. -/
import Derived.Test.YtijkkkiejdaljaaJrState
namespace Go.Proofs.Ytijkkkiejdaljaa
open Go.RowKit

/-- A device and a journal on it, in memory that was laid since w0. -/
structure JM (w0 w : World) (b jb : Nat) (J : Jn) (D : Dv) (F : Nat → Prop) : Prop where
  dev : Dev w b D F
  head : JAt w jb b J
  fo : ∀ q, F q → w0.heap.size ≤ q
  jo : w0.heap.size ≤ jb
  jF : ¬ F jb
  under : Below w0.heap.size w0 w

/-- The same place and mark. -/
def SameJ (J J' : Jn) : Prop := J'.fr = J.fr ∧ J'.size = J.size ∧ J'.at_ = J.at_ ∧ J'.seq = J.seq

section
variable {w0 w w' : World} {b jb n : Nat} {J J' : Jn} {D D' : Dv} {F S : Nat → Prop} {L : List Bytes}

theorem JM.later (h : JM w0 w b jb J D F) (hb : Below w.heap.size w w') : JM w0 w' b jb J D F where
  dev := h.dev.below hb
  head := h.head.below hb
  fo := h.fo
  jo := h.jo
  jF := h.jF
  under := h.under.trans (hb.mono h.under.size)
/-- Something else is turned. -/
theorem JM.other (h : JM w0 w b jb J D F) (ho : Only S w w') (hS : ∀ q, S q → w0.heap.size ≤ q ∧ ¬ F q ∧ q ≠ jb) : JM w0 w' b jb J D F where
  dev := h.dev.other ho fun q hq hs => (hS q hs).2.1 hq
  head := h.head.only ho fun hs => (hS jb hs).2.2 rfl
  fo := h.fo
  jo := h.jo
  jF := h.jF
  under := h.under.trans (ho.below h.under.size fun q hs => (hS q hs).1)
/-- The device or the head is turned. -/
theorem JM.step (h : JM w0 w b jb J D F) (hd : Dev w' b D' (Grow F w w')) (hj : JAt w' jb b J') (ho : Only (fun q => F q ∨ q = jb) w w') : JM w0 w' b jb J' D' (Grow F w w') where
  dev := hd
  head := hj
  fo q hq := hq.elim (h.fo q) fun hq => by have := h.under.size; omega
  jo := h.jo
  jF hq := hq.elim h.jF fun hq => by have := h.head.lt; omega
  under := h.under.trans (ho.below h.under.size fun q hq => hq.elim (h.fo q) fun e => e ▸ h.jo)
theorem JM.few (h : JM w0 w b jb J D F) : D.bk.length ≤ 4096 := by
  obtain ⟨_, _, _, _, _, hd⟩ := h.dev
  exact hd.few

/-- What an Append that is OK leaves. -/
def Kept (w0 w : World) (b jb n : Nat) (J : Jn) (F : Nat → Prop) (L : List Bytes) (w' : World) : Prop :=
  ∃ J' D', JM w0 w' b jb J' D' (Grow F w w') ∧ PS J' D' L n ∧ SameJ J J' ∧ D'.left < 0 ∧ Only (fun q => F q ∨ q = jb) w w'

theorem jm_append (h : JM w0 w b jb J D F) (p : PS J D L n) {v : Value} {l : Bytes} (hv : Bs w v l) (hoff : ∀ q, v.ownBlock = some q → ¬ F q) (hl : l.length ≤ 1000000) (hn : n + l.length + 10 < 4294967296) (hs : J.seq + J.held + 1 < 18446744073709551616) (hr : takenBy L + nBlocks l.length ≤ J.size) (hf : D.left < 0) :
    Calls Try.prog 11 #[ptr jb, v] w fun e w' => e = .returned (err 0) ∧ Kept w0 w b jb (n + nPieces l.length + 3) J F (L ++ [l]) w' := by
  refine (append_go h.head p.fit h.dev h.jF p.upto hn p.live (by rw [p.ahead]; exact hr) p.holds.fits p.on hs hv hoff).mono ?_
  rintro e w' ⟨rfl, hd, hj, ho⟩
  obtain ⟨w1, _, _⟩ := went_writeD (J := J) p.on p.holds.fits p.holds.atl (l := l) (by rw [p.ahead]; exact hr)
  obtain ⟨hc, hlf⟩ := w1.free hf
  have hp := p.append hl hr hs hc
  rw [hc]
  refine ⟨rfl, _, _, h.step hd hj ho, hp, ?_, hlf, ho⟩
  have hA : appJ J D l = J.more (writeD J D l).2.1 := by unfold appJ; rw [if_pos hc]
  rw [hA]
  exact ⟨rfl, rfl, rfl, rfl⟩

theorem jm_full (h : JM w0 w b jb J D F) (p : PS J D L n) {v : Value} {l : Bytes} (hv : Bs w v l) (hr : J.size < takenBy L + nBlocks l.length) :
    Calls Try.prog 11 #[ptr jb, v] w fun e w' => e = .returned (err 7) ∧ JM w0 w' b jb J D F ∧ Below w.heap.size w w' := by
  refine (append_full h.head p.fit p.live hv (by rw [p.ahead]; exact hr)).mono ?_
  rintro e w' ⟨rfl, hb⟩
  exact ⟨rfl, h.later hb, hb⟩

theorem jm_forget (h : JM w0 w b jb J D F) (p : PS J D L n) :
    Calls Try.prog 13 #[ptr jb] w fun e w' => e = .returned (err 0) ∧ JM w0 w' b jb J.gone D F ∧ PS J.gone D [] n ∧ Only (· = jb) w w' := by
  refine (forget_ok h.head p.fit p.live).mono ?_
  rintro e w' ⟨rfl, hj, ho⟩
  refine ⟨rfl, ?_, p.forget, ho⟩
  exact {
    dev := h.dev.other ho fun q hq e => h.jF (e ▸ hq)
    head := hj
    fo := h.fo
    jo := h.jo
    jF := h.jF
    under := h.under.trans (ho.below h.under.size fun q e => e ▸ h.jo) }

theorem jm_free (h : JM w0 w b jb J D F) (p : PS J D L n) :
    Calls Try.prog 25 #[ptr jb] w fun e w' => e = .returned (.int .i64 ((J.size : Int) - (takenBy L : Nat))) ∧ JM w0 w' b jb J D F ∧ Below w.heap.size w w' := by
  refine (free_any h.head p.fit).mono ?_
  rintro e w' ⟨rfl, m, rfl⟩
  rw [p.ahead]
  exact ⟨rfl, h.later (below_drewN (Below.refl _ _) m), below_drewN (Below.refl _ _) m⟩

theorem jm_mark (h : JM w0 w b jb J D F) (p : PS J D L n) :
    Calls Try.prog 24 #[ptr jb] w fun e w' => e = .returned (.tuple #[.int .i64 (ringAt J.at_ J.size (takenBy L) : Nat), .int .u64 ((J.seq : Int) + (L.length : Int))]) ∧ JM w0 w' b jb J D F ∧ Below w.heap.size w w' := by
  refine (mark_any h.head p.fit).mono ?_
  rintro e w' ⟨rfl, hb⟩
  unfold markV
  rw [p.ahead, p.held]
  exact ⟨rfl, h.later hb, hb⟩

/-- A journal is opened, beside all that is. -/
theorem dev_open (hD : Dev w b D F) (ho : D.on = true) (hc : Clean D.bk) (hu : Upto D n) {fr sz a s : Nat} (hh : Holds fr sz a s D.bk L) (hs : 1 ≤ s ∧ s ≤ 4611686018427387904) (hl : ∀ l ∈ L, l.length ≤ 1000000) :
    Calls Try.prog 22 #[ptr b, .int .i64 (fr : Int), .int .i64 (sz : Int), .int .i64 (a : Int), .int .u64 (s : Int)] w fun e w' =>
      ∃ lv G J', e = .returned (.tuple #[ptr w.heap.size, lv, err 0]) ∧ RowG w' G lv L ∧ (∀ q, G q → w.heap.size < q ∧ q < w'.heap.size) ∧ JAt w' w.heap.size b J' ∧ PS J' D L n ∧ J'.fr = fr ∧ J'.size = sz ∧ J'.at_ = a ∧ J'.seq = s ∧ Below w.heap.size w w' := by
  have hfew : D.bk.length ≤ 4096 := by
    obtain ⟨_, _, _, _, _, h⟩ := hD
    exact h.few
  have hft := hh.fits
  have h2 := hh.two
  have hat := hh.atl
  have hrm := hh.room
  have hL : L.length ≤ takenBy L := by
    clear hh hl hrm hft
    induction L with
    | nil => exact Nat.zero_le _
    | cons x r ih =>
      have e : takenBy (x :: r) = nBlocks x.length + takenBy r := by simp [takenBy]
      rw [e, List.length_cons]
      unfold nBlocks
      omega
  refine (open_ok hD ho (fr := fr) (sz := sz) (a := a) (s := s) (by unfold mayLie; omega)).mono ?_
  rintro e w' ⟨lv, G, rfl, hrow, hG, hj, hb⟩
  obtain ⟨bk, on, left⟩ := D
  simp only at ho
  subst ho
  obtain ⟨k1, k2⟩ := hh.reopen (left := left) hc hu hfew (by omega) hl
  rw [k1] at hrow
  exact ⟨lv, G, _, rfl, hrow, hG, hj, k2, rfl, rfl, rfl, rfl, hb⟩
end
end Go.Proofs.Ytijkkkiejdaljaa
