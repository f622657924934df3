/- A journal's state in plain words, and what each call makes of it; no condition. -/
import Derived.Test.YtijkkkiejdaljaaJrAppend
import Derived.Test.YtijkkkiejdaljaaJrOpen
namespace Go.Proofs.Ytijkkkiejdaljaa

/-- A journal that is alive holds L on a device that is on, and of which nothing is loose. -/
structure PS (J : Jn) (D : Dv) (L : List Bytes) (n : Nat) : Prop where
  fit : J.Fit
  upto : Upto D n
  on : D.on = true
  live : J.dead = false
  clean : Clean D.bk
  holds : Holds J.fr J.size J.at_ J.seq D.bk L
  spot : J.spot = (encA J.at_ J.seq (0, 0) L).2
  held : J.held = L.length
  short : ∀ l ∈ L, l.length ≤ 1000000

theorem PS.ahead {J : Jn} {D : Dv} {L : List Bytes} {n : Nat} (h : PS J D L n) : J.ahead = takenBy L := by
  have := congrArg Prod.fst h.spot
  rw [encA_spot] at this
  simpa using this

theorem encS_sum (a s : Nat) (t : Spot) (l : Bytes) : (encS a s t l).2.2 < 18446744073709551616 := by
  unfold encS
  have := sumOf_lt (endB a s (encP a s t (piecesL l)).2)
  simp only
  omega

/-- Appended, and sure. -/
theorem PS.append {J : Jn} {D : Dv} {L : List Bytes} {n : Nat} (h : PS J D L n) {l : Bytes} (hl : l.length ≤ 1000000) (hr : takenBy L + nBlocks l.length ≤ J.size) (hs : J.seq + J.held + 1 < 18446744073709551616) (hc : (writeD J D l).2.2 = 0) :
    PS (appJ J D l) (writeD J D l).1 (L ++ [l]) (n + nPieces l.length + 3) := by
  have hA : appJ J D l = J.more (writeD J D l).2.1 := by unfold appJ; rw [if_pos hc]
  obtain ⟨w1, _, w3⟩ := went_writeD (J := J) h.on h.holds.fits h.holds.atl (l := l) (by rw [h.ahead]; exact hr)
  have hsp := w3 hc
  have hsp2 : (encS J.at_ J.seq J.spot l).2 = (encA J.at_ J.seq (0, 0) (L ++ [l])).2 := by rw [encA_append, encA_one, ← h.spot]
  obtain ⟨k1, k2⟩ := (holds_write h.on h.holds h.spot hr).1 hc
  rw [hA]
  exact {
    fit := {
      atl := h.fit.atl
      few := h.fit.few
      frl := h.fit.frl
      ahl := by
        show (writeD J D l).2.1.1 ≤ J.size
        rw [hsp, encS_spot]
        simp only [h.ahead]
        exact hr
      sql := by show J.seq + (J.held + 1) < _; omega
      sml := by
        show (writeD J D l).2.1.2 < _
        rw [hsp]
        exact encS_sum _ _ _ _ }
    upto := write_upto h.upto
    on := by
      rcases w1.ends with ⟨_, e⟩ | ⟨e, _⟩
      · exact e
      · rw [hc] at e; cases e
    live := h.live
    clean := k1
    holds := k2
    spot := by
      show (writeD J D l).2.1 = _
      rw [hsp]
      exact hsp2
    held := by
      show J.held + 1 = _
      rw [h.held, List.length_append]
      rfl
    short := fun x hx => by
      rcases List.mem_append.1 hx with hx | hx
      · exact h.short x hx
      · rw [List.mem_singleton.1 hx]; exact hl }

/-- What is left when the power went in an Append: whatever is kept, all that was held is there, and perhaps what was under way. -/
structure Lost (J : Jn) (D : Dv) (L : List Bytes) (l : Bytes) (n : Nat) : Prop where
  off : D.on = false
  upto : Upto D n
  len : J.fr + J.size ≤ D.bk.length
  keeps : ∀ ps, Holds J.fr J.size J.at_ J.seq (comes D.bk ps) L ∨ Holds J.fr J.size J.at_ J.seq (comes D.bk ps) (L ++ [l])

theorem PS.lost {J : Jn} {D : Dv} {L : List Bytes} {n : Nat} (h : PS J D L n) {l : Bytes} (hr : takenBy L + nBlocks l.length ≤ J.size) (hc : (writeD J D l).2.2 ≠ 0) :
    (writeD J D l).2.2 = 8 ∧ ¬ D.left < 0 ∧ appJ J D l = J.dies ∧ Lost J (writeD J D l).1 L l (n + nPieces l.length + 3) := by
  obtain ⟨w1, _, _⟩ := went_writeD (J := J) h.on h.holds.fits h.holds.atl (l := l) (by rw [h.ahead]; exact hr)
  have h8 : (writeD J D l).2.2 = 8 ∧ (writeD J D l).1.on = false := by
    rcases w1.ends with ⟨e, _⟩ | e
    · exact absurd e hc
    · exact e
  refine ⟨h8.1, fun hl => hc (w1.free hl).1, by unfold appJ; rw [if_neg hc], h8.2, write_upto h.upto, by rw [w1.len]; exact h.holds.fits, (holds_write h.on h.holds h.spot hr).2 hc⟩

/-- Opened by the mark of the beginning: just what is held. -/
theorem Holds.reopen {fr sz a s : Nat} {bk : List Bk} {L : List Bytes} {left : Int} {n : Nat} (h : Holds fr sz a s bk L) (hc : Clean bk) (hu : Upto ⟨bk, true, left⟩ n) (hb : bk.length ≤ 4096) (hs : s + L.length < 18446744073709551616) (hl : ∀ l ∈ L, l.length ≤ 1000000) :
    (scan a s (standsFrom fr sz a bk 0) (0, 0) []).map Prod.fst = L ∧ PS (foundJ (newJ fr sz a s) (scan a s (standsFrom fr sz a bk 0) (0, 0) [])) ⟨bk, true, left⟩ L n := by
  obtain ⟨m, h1, h2, h3⟩ := h.found
  rw [h1]
  have hlen : m.length = L.length := by rw [← h2, List.length_map]
  have hsp : (foundJ (newJ fr sz a s) m).spot = (encA a s (0, 0) L).2 := h3
  have hft := h.fits
  have hrm := h.room
  have hat := h.atl
  refine ⟨h2, {
    fit := {
      atl := hat
      few := by show sz ≤ 4096; omega
      frl := by show fr ≤ 4096; omega
      ahl := by
        have := congrArg Prod.fst hsp
        rw [encA_spot] at this
        show (foundJ (newJ fr sz a s) m).spot.1 ≤ sz
        rw [this]
        simpa using hrm
      sql := by show s + (0 + m.length) < _; omega
      sml := by
        have := congrArg Prod.snd hsp
        show (foundJ (newJ fr sz a s) m).spot.2 < _
        rw [this]
        rcases List.eq_nil_or_concat L with rfl | ⟨L', l, rfl⟩
        · simp [encA]
        · rw [List.concat_eq_append, encA_append, encA_one]
          exact encS_sum _ _ _ _ }
    upto := hu
    on := rfl
    live := rfl
    clean := hc
    holds := h
    spot := hsp
    held := by show 0 + m.length = _; omega
    short := hl }⟩

/-- Forgotten. -/
theorem PS.forget {J : Jn} {D : Dv} {L : List Bytes} {n : Nat} (h : PS J D L n) : PS J.gone D [] n where
  fit := {
    atl := by show ringAt _ _ _ < J.size; exact ringAt_le h.fit.atl h.fit.ahl
    few := h.fit.few
    frl := h.fit.frl
    ahl := Nat.zero_le _
    sql := by show J.seq + J.held + 0 < _; have := h.fit.sql; omega
    sml := by show 0 < _; decide }
  upto := h.upto
  on := h.on
  live := h.live
  clean := h.clean
  holds := by
    show Holds J.fr J.size (ringAt J.at_ J.size J.ahead) (J.seq + J.held) D.bk []
    rw [h.ahead, h.held]
    exact h.holds.forget (by have := h.fit.sql; have := h.held; omega)
  spot := rfl
  held := rfl
  short _ hx := by cases hx

/-- A new journal on blocks that are of no mark. -/
theorem ps_new {fr sz a s n : Nat} {bk : List Bk} {left : Int} (hf : ∀ (i : Nat) (x : Bk), i < sz → bk[fr + i]? = some x → ∀ c, Cand x c → Foreign c) (hc : Clean bk) (hu : Upto ⟨bk, true, left⟩ n) (hb : bk.length ≤ 4096) (hn : fr + sz ≤ bk.length) (h2 : 2 ≤ sz) (ha : a < sz) (hs : s < 18446744073709551616) :
    scan a s (standsFrom fr sz a bk 0) (0, 0) [] = [] ∧ PS (newJ fr sz a s) ⟨bk, true, left⟩ [] n := by
  obtain ⟨h1, h3⟩ := (Holds.fresh hf hn h2 ha hs).reopen (left := left) hc hu hb (by simpa using hs) (fun _ hx => by cases hx)
  have h4 : scan a s (standsFrom fr sz a bk 0) (0, 0) [] = [] := List.map_eq_nil_iff.1 h1
  rw [h4] at h3
  exact ⟨h4, h3⟩

theorem foreign_noughts : Foreign noughts := foreign_of (by decide)
theorem fresh_foreign {n : Nat} (i : Nat) (x : Bk) (hx : (fresh n).bk[i]? = some x) : ∀ c, Cand x c → Foreign c := fun c hc => by
  obtain ⟨rfl, _⟩ := fresh_get hx
  rcases hc with rfl | hc
  · exact foreign_noughts
  · cases hc
end Go.Proofs.Ytijkkkiejdaljaa
