/- A journal's state in plain words, and what each call makes of it; no condition · A journal that a statement has made for itself, on a device of its own: what its calls answer; conditions: the sizes that each contract names. -/
import Derived.Test.YtijkkkiejdaljaaJrAppend
import Derived.Test.YtijkkkiejdaljaaJrOpen
namespace Go.Proofs.Ytijkkkiejdaljaa

/-- A journal that is alive holds L on a device that is on, and of which nothing is loose. -/
structure PS (J : Jn) (D : Dv) (L : List Bytes) (n : Nat) : Prop where
  fit : J.Fit
  upto : Upto D n
  on : D.on = true
  live : J.dead = false
  clean : Clean D.bk
  holds : Holds J.fr J.size J.at_ J.seq D.bk L
  spot : J.spot = (encA J.at_ J.seq (0, 0) L).2
  held : J.held = L.length
  short : ∀ l ∈ L, l.length ≤ 1000000

theorem PS.ahead {J : Jn} {D : Dv} {L : List Bytes} {n : Nat} (h : PS J D L n) : J.ahead = takenBy L := by
  have := congrArg Prod.fst h.spot
  rw [encA_spot] at this
  simpa using this

theorem encS_sum (a s : Nat) (t : Spot) (l : Bytes) : (encS a s t l).2.2 < 18446744073709551616 := by
  unfold encS
  have := sumOf_lt (endB a s (encP a s t (piecesL l)).2)
  simp only
  omega

/-- Appended, and sure. -/
theorem PS.append {J : Jn} {D : Dv} {L : List Bytes} {n : Nat} (h : PS J D L n) {l : Bytes} (hl : l.length ≤ 1000000) (hr : takenBy L + nBlocks l.length ≤ J.size) (hs : J.seq + J.held + 1 < 18446744073709551616) (hc : (writeD J D l).2.2 = 0) :
    PS (appJ J D l) (writeD J D l).1 (L ++ [l]) (n + nPieces l.length + 3) := by
  have hA : appJ J D l = J.more (writeD J D l).2.1 := by unfold appJ; rw [if_pos hc]
  obtain ⟨w1, _, w3⟩ := went_writeD (J := J) h.on h.holds.fits h.holds.atl (l := l) (by rw [h.ahead]; exact hr)
  have hsp := w3 hc
  have hsp2 : (encS J.at_ J.seq J.spot l).2 = (encA J.at_ J.seq (0, 0) (L ++ [l])).2 := by rw [encA_append, encA_one, ← h.spot]
  obtain ⟨k1, k2⟩ := (holds_write h.on h.holds h.spot hr).1 hc
  rw [hA]
  exact {
    fit := {
      atl := h.fit.atl
      few := h.fit.few
      frl := h.fit.frl
      ahl := by
        show (writeD J D l).2.1.1 ≤ J.size
        rw [hsp, encS_spot]
        simp only [h.ahead]
        exact hr
      sql := by show J.seq + (J.held + 1) < _; omega
      sml := by
        show (writeD J D l).2.1.2 < _
        rw [hsp]
        exact encS_sum _ _ _ _ }
    upto := write_upto h.upto
    on := by
      rcases w1.ends with ⟨_, e⟩ | ⟨e, _⟩
      · exact e
      · rw [hc] at e; cases e
    live := h.live
    clean := k1
    holds := k2
    spot := by
      show (writeD J D l).2.1 = _
      rw [hsp]
      exact hsp2
    held := by
      show J.held + 1 = _
      rw [h.held, List.length_append]
      rfl
    short := fun x hx => by
      rcases List.mem_append.1 hx with hx | hx
      · exact h.short x hx
      · rw [List.mem_singleton.1 hx]; exact hl }

/-- What is left when the power went in an Append: whatever is kept, all that was held is there, and perhaps what was under way. -/
structure Lost (J : Jn) (D : Dv) (L : List Bytes) (l : Bytes) (n : Nat) : Prop where
  off : D.on = false
  upto : Upto D n
  len : J.fr + J.size ≤ D.bk.length
  keeps : ∀ ps, Holds J.fr J.size J.at_ J.seq (comes D.bk ps) L ∨ Holds J.fr J.size J.at_ J.seq (comes D.bk ps) (L ++ [l])

theorem PS.lost {J : Jn} {D : Dv} {L : List Bytes} {n : Nat} (h : PS J D L n) {l : Bytes} (hr : takenBy L + nBlocks l.length ≤ J.size) (hc : (writeD J D l).2.2 ≠ 0) :
    (writeD J D l).2.2 = 8 ∧ ¬ D.left < 0 ∧ appJ J D l = J.dies ∧ Lost J (writeD J D l).1 L l (n + nPieces l.length + 3) := by
  obtain ⟨w1, _, _⟩ := went_writeD (J := J) h.on h.holds.fits h.holds.atl (l := l) (by rw [h.ahead]; exact hr)
  have h8 : (writeD J D l).2.2 = 8 ∧ (writeD J D l).1.on = false := by
    rcases w1.ends with ⟨e, _⟩ | e
    · exact absurd e hc
    · exact e
  refine ⟨h8.1, fun hl => hc (w1.free hl).1, by unfold appJ; rw [if_neg hc], h8.2, write_upto h.upto, by rw [w1.len]; exact h.holds.fits, (holds_write h.on h.holds h.spot hr).2 hc⟩

/-- Opened by the mark of the beginning: just what is held. -/
theorem Holds.reopen {fr sz a s : Nat} {bk : List Bk} {L : List Bytes} {left : Int} {n : Nat} (h : Holds fr sz a s bk L) (hc : Clean bk) (hu : Upto ⟨bk, true, left⟩ n) (hb : bk.length ≤ 4096) (hs : s + L.length < 18446744073709551616) (hl : ∀ l ∈ L, l.length ≤ 1000000) :
    (scan a s (standsFrom fr sz a bk 0) (0, 0) []).map Prod.fst = L ∧ PS (foundJ (newJ fr sz a s) (scan a s (standsFrom fr sz a bk 0) (0, 0) [])) ⟨bk, true, left⟩ L n := by
  obtain ⟨m, h1, h2, h3⟩ := h.found
  rw [h1]
  have hlen : m.length = L.length := by rw [← h2, List.length_map]
  have hsp : (foundJ (newJ fr sz a s) m).spot = (encA a s (0, 0) L).2 := h3
  have hft := h.fits
  have hrm := h.room
  have hat := h.atl
  refine ⟨h2, {
    fit := {
      atl := hat
      few := by show sz ≤ 4096; omega
      frl := by show fr ≤ 4096; omega
      ahl := by
        have := congrArg Prod.fst hsp
        rw [encA_spot] at this
        show (foundJ (newJ fr sz a s) m).spot.1 ≤ sz
        rw [this]
        simpa using hrm
      sql := by show s + (0 + m.length) < _; omega
      sml := by
        have := congrArg Prod.snd hsp
        show (foundJ (newJ fr sz a s) m).spot.2 < _
        rw [this]
        rcases List.eq_nil_or_concat L with rfl | ⟨L', l, rfl⟩
        · simp [encA]
        · rw [List.concat_eq_append, encA_append, encA_one]
          exact encS_sum _ _ _ _ }
    upto := hu
    on := rfl
    live := rfl
    clean := hc
    holds := h
    spot := hsp
    held := by show 0 + m.length = _; omega
    short := hl }⟩

/-- Forgotten. -/
theorem PS.forget {J : Jn} {D : Dv} {L : List Bytes} {n : Nat} (h : PS J D L n) : PS J.gone D [] n where
  fit := {
    atl := by show ringAt _ _ _ < J.size; exact ringAt_le h.fit.atl h.fit.ahl
    few := h.fit.few
    frl := h.fit.frl
    ahl := Nat.zero_le _
    sql := by show J.seq + J.held + 0 < _; have := h.fit.sql; omega
    sml := by show 0 < _; decide }
  upto := h.upto
  on := h.on
  live := h.live
  clean := h.clean
  holds := by
    show Holds J.fr J.size (ringAt J.at_ J.size J.ahead) (J.seq + J.held) D.bk []
    rw [h.ahead, h.held]
    exact h.holds.forget (by have := h.fit.sql; have := h.held; omega)
  spot := rfl
  held := rfl
  short _ hx := by cases hx

/-- A new journal on blocks that are of no mark. -/
theorem ps_new {fr sz a s n : Nat} {bk : List Bk} {left : Int} (hf : ∀ (i : Nat) (x : Bk), i < sz → bk[fr + i]? = some x → ∀ c, Cand x c → Foreign c) (hc : Clean bk) (hu : Upto ⟨bk, true, left⟩ n) (hb : bk.length ≤ 4096) (hn : fr + sz ≤ bk.length) (h2 : 2 ≤ sz) (ha : a < sz) (hs : s < 18446744073709551616) :
    scan a s (standsFrom fr sz a bk 0) (0, 0) [] = [] ∧ PS (newJ fr sz a s) ⟨bk, true, left⟩ [] n := by
  obtain ⟨h1, h3⟩ := (Holds.fresh hf hn h2 ha hs).reopen (left := left) hc hu hb (by simpa using hs) (fun _ hx => by cases hx)
  have h4 : scan a s (standsFrom fr sz a bk 0) (0, 0) [] = [] := List.map_eq_nil_iff.1 h1
  rw [h4] at h3
  exact ⟨h4, h3⟩

theorem foreign_noughts : Foreign noughts := foreign_of (by decide)
theorem fresh_foreign {n : Nat} (i : Nat) (x : Bk) (hx : (fresh n).bk[i]? = some x) : ∀ c, Cand x c → Foreign c := fun c hc => by
  obtain ⟨rfl, _⟩ := fresh_get hx
  rcases hc with rfl | hc
  · exact foreign_noughts
  · cases hc

open Go.RowKit

/-- A device and a journal on it, in memory that was laid since w0. -/
structure JM (w0 w : World) (b jb : Nat) (J : Jn) (D : Dv) (F : Nat → Prop) : Prop where
  dev : Dev w b D F
  head : JAt w jb b J
  fo : ∀ q, F q → w0.heap.size ≤ q
  jo : w0.heap.size ≤ jb
  jF : ¬ F jb
  under : Below w0.heap.size w0 w

/-- The same place and mark. -/
def SameJ (J J' : Jn) : Prop := J'.fr = J.fr ∧ J'.size = J.size ∧ J'.at_ = J.at_ ∧ J'.seq = J.seq

section
variable {w0 w w' : World} {b jb n : Nat} {J J' : Jn} {D D' : Dv} {F S : Nat → Prop} {L : List Bytes}

theorem JM.later (h : JM w0 w b jb J D F) (hb : Below w.heap.size w w') : JM w0 w' b jb J D F where
  dev := h.dev.below hb
  head := h.head.below hb
  fo := h.fo
  jo := h.jo
  jF := h.jF
  under := h.under.trans (hb.mono h.under.size)
/-- Something else is turned. -/
theorem JM.other (h : JM w0 w b jb J D F) (ho : Only S w w') (hS : ∀ q, S q → w0.heap.size ≤ q ∧ ¬ F q ∧ q ≠ jb) : JM w0 w' b jb J D F where
  dev := h.dev.other ho fun q hq hs => (hS q hs).2.1 hq
  head := h.head.only ho fun hs => (hS jb hs).2.2 rfl
  fo := h.fo
  jo := h.jo
  jF := h.jF
  under := h.under.trans (ho.below h.under.size fun q hs => (hS q hs).1)
/-- The device or the head is turned. -/
theorem JM.step (h : JM w0 w b jb J D F) (hd : Dev w' b D' (Grow F w w')) (hj : JAt w' jb b J') (ho : Only (fun q => F q ∨ q = jb) w w') : JM w0 w' b jb J' D' (Grow F w w') where
  dev := hd
  head := hj
  fo q hq := hq.elim (h.fo q) fun hq => by have := h.under.size; omega
  jo := h.jo
  jF hq := hq.elim h.jF fun hq => by have := h.head.lt; omega
  under := h.under.trans (ho.below h.under.size fun q hq => hq.elim (h.fo q) fun e => e ▸ h.jo)
theorem JM.few (h : JM w0 w b jb J D F) : D.bk.length ≤ 4096 := by
  obtain ⟨_, _, _, _, _, hd⟩ := h.dev
  exact hd.few

/-- What an Append that is OK leaves. -/
def Kept (w0 w : World) (b jb n : Nat) (J : Jn) (F : Nat → Prop) (L : List Bytes) (w' : World) : Prop :=
  ∃ J' D', JM w0 w' b jb J' D' (Grow F w w') ∧ PS J' D' L n ∧ SameJ J J' ∧ D'.left < 0 ∧ Only (fun q => F q ∨ q = jb) w w'

theorem jm_append (h : JM w0 w b jb J D F) (p : PS J D L n) {v : Value} {l : Bytes} (hv : Bs w v l) (hoff : ∀ q, v.ownBlock = some q → ¬ F q) (hl : l.length ≤ 1000000) (hn : n + l.length + 10 < 4294967296) (hs : J.seq + J.held + 1 < 18446744073709551616) (hr : takenBy L + nBlocks l.length ≤ J.size) (hf : D.left < 0) :
    Calls Try.prog 11 #[ptr jb, v] w fun e w' => e = .returned (err 0) ∧ Kept w0 w b jb (n + nPieces l.length + 3) J F (L ++ [l]) w' := by
  refine (append_go h.head p.fit h.dev h.jF p.upto hn p.live (by rw [p.ahead]; exact hr) p.holds.fits p.on hs hv hoff).mono ?_
  rintro e w' ⟨rfl, hd, hj, ho⟩
  obtain ⟨w1, _, _⟩ := went_writeD (J := J) p.on p.holds.fits p.holds.atl (l := l) (by rw [p.ahead]; exact hr)
  obtain ⟨hc, hlf⟩ := w1.free hf
  have hp := p.append hl hr hs hc
  rw [hc]
  refine ⟨rfl, _, _, h.step hd hj ho, hp, ?_, hlf, ho⟩
  have hA : appJ J D l = J.more (writeD J D l).2.1 := by unfold appJ; rw [if_pos hc]
  rw [hA]
  exact ⟨rfl, rfl, rfl, rfl⟩

theorem jm_full (h : JM w0 w b jb J D F) (p : PS J D L n) {v : Value} {l : Bytes} (hv : Bs w v l) (hr : J.size < takenBy L + nBlocks l.length) :
    Calls Try.prog 11 #[ptr jb, v] w fun e w' => e = .returned (err 7) ∧ JM w0 w' b jb J D F ∧ Below w.heap.size w w' := by
  refine (append_full h.head p.fit p.live hv (by rw [p.ahead]; exact hr)).mono ?_
  rintro e w' ⟨rfl, hb⟩
  exact ⟨rfl, h.later hb, hb⟩

theorem jm_forget (h : JM w0 w b jb J D F) (p : PS J D L n) :
    Calls Try.prog 13 #[ptr jb] w fun e w' => e = .returned (err 0) ∧ JM w0 w' b jb J.gone D F ∧ PS J.gone D [] n ∧ Only (· = jb) w w' := by
  refine (forget_ok h.head p.fit p.live).mono ?_
  rintro e w' ⟨rfl, hj, ho⟩
  refine ⟨rfl, ?_, p.forget, ho⟩
  exact {
    dev := h.dev.other ho fun q hq e => h.jF (e ▸ hq)
    head := hj
    fo := h.fo
    jo := h.jo
    jF := h.jF
    under := h.under.trans (ho.below h.under.size fun q e => e ▸ h.jo) }

theorem jm_free (h : JM w0 w b jb J D F) (p : PS J D L n) :
    Calls Try.prog 25 #[ptr jb] w fun e w' => e = .returned (.int .i64 ((J.size : Int) - (takenBy L : Nat))) ∧ JM w0 w' b jb J D F ∧ Below w.heap.size w w' := by
  refine (free_any h.head p.fit).mono ?_
  rintro e w' ⟨rfl, m, rfl⟩
  rw [p.ahead]
  exact ⟨rfl, h.later (below_drewN (Below.refl _ _) m), below_drewN (Below.refl _ _) m⟩

theorem jm_mark (h : JM w0 w b jb J D F) (p : PS J D L n) :
    Calls Try.prog 24 #[ptr jb] w fun e w' => e = .returned (.tuple #[.int .i64 (ringAt J.at_ J.size (takenBy L) : Nat), .int .u64 ((J.seq : Int) + (L.length : Int))]) ∧ JM w0 w' b jb J D F ∧ Below w.heap.size w w' := by
  refine (mark_any h.head p.fit).mono ?_
  rintro e w' ⟨rfl, hb⟩
  unfold markV
  rw [p.ahead, p.held]
  exact ⟨rfl, h.later hb, hb⟩

/-- A journal is opened, beside all that is. -/
theorem dev_open (hD : Dev w b D F) (ho : D.on = true) (hc : Clean D.bk) (hu : Upto D n) {fr sz a s : Nat} (hh : Holds fr sz a s D.bk L) (hs : 1 ≤ s ∧ s ≤ 4611686018427387904) (hl : ∀ l ∈ L, l.length ≤ 1000000) :
    Calls Try.prog 22 #[ptr b, .int .i64 (fr : Int), .int .i64 (sz : Int), .int .i64 (a : Int), .int .u64 (s : Int)] w fun e w' =>
      ∃ lv G J', e = .returned (.tuple #[ptr w.heap.size, lv, err 0]) ∧ RowG w' G lv L ∧ (∀ q, G q → w.heap.size < q ∧ q < w'.heap.size) ∧ JAt w' w.heap.size b J' ∧ PS J' D L n ∧ J'.fr = fr ∧ J'.size = sz ∧ J'.at_ = a ∧ J'.seq = s ∧ Below w.heap.size w w' := by
  have hfew : D.bk.length ≤ 4096 := by
    obtain ⟨_, _, _, _, _, h⟩ := hD
    exact h.few
  have hft := hh.fits
  have h2 := hh.two
  have hat := hh.atl
  have hrm := hh.room
  have hL : L.length ≤ takenBy L := by
    clear hh hl hrm hft
    induction L with
    | nil => exact Nat.zero_le _
    | cons x r ih =>
      have e : takenBy (x :: r) = nBlocks x.length + takenBy r := by simp [takenBy]
      rw [e, List.length_cons]
      unfold nBlocks
      omega
  refine (open_ok hD ho (fr := fr) (sz := sz) (a := a) (s := s) (by unfold mayLie; omega)).mono ?_
  rintro e w' ⟨lv, G, rfl, hrow, hG, hj, hb⟩
  obtain ⟨bk, on, left⟩ := D
  simp only at ho
  subst ho
  obtain ⟨k1, k2⟩ := hh.reopen (left := left) hc hu hfew (by omega) hl
  rw [k1] at hrow
  exact ⟨lv, G, _, rfl, hrow, hG, hj, k2, rfl, rfl, rfl, rfl, hb⟩
end
end Go.Proofs.Ytijkkkiejdaljaa
