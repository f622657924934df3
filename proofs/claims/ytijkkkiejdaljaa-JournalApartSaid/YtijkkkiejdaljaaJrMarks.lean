/- Blocks of one's own letters on a device, and a journal beside them that is appended to and forgotten whatever comes of it: the blocks that are not the journal's stand; no condition. -/
import Derived.Test.YtijkkkiejdaljaaJrWorks
namespace Go.Proofs.Ytijkkkiejdaljaa
open Go.RowKit

/-- A block that begins with a letter. -/
def mkB (k : Nat) : Bytes := UInt8.ofNat k :: List.replicate 511 0
theorem mkB_length (k : Nat) : (mkB k).length = 512 := by rw [mkB, List.length_cons, List.length_replicate]
theorem mkB_set (k : Nat) : (List.replicate 512 (0 : UInt8)).set 0 (UInt8.ofNat k) = mkB k := rfl
theorem mkB_foreign (k : Nat) : Foreign (mkB k) := foreign_of (by
  show beNat ((List.replicate 511 (0 : UInt8)).take 2) < 14
  decide)

/-- The first r blocks have their letters. -/
structure AD (D : Dv) (r : Nat) : Prop where
  on : D.on = true
  left : D.left = -1
  len : D.bk.length = 60
  upto : Upto D r
  marks : ∀ j, j < r → standAt D.bk j = mkB (j + 1)
  cand : ∀ (i : Nat) (x : Bk), D.bk[i]? = some x → ∀ c, Cand x c → Foreign c

theorem AD.start : AD (fresh 60) 0 where
  on := rfl
  left := rfl
  len := by simp [fresh]
  upto := upto_fresh 60
  marks j hj := by omega
  cand := fun i x hx => fresh_foreign i x hx
theorem AD.write {D : Dv} {r : Nat} (h : AD D r) (hr : r < 60) : wcode D (r : Nat) (mkB (r + 1)) = 0 ∧ AD (wdev D (r : Nat) (mkB (r + 1))) (r + 1) := by
  have hu := (wdev_upto h.upto (r : Nat) (mkB (r + 1))).1
  rcases wcode_in h.on (show r < D.bk.length by rw [h.len]; exact hr) (mkB_length (r + 1)) with ⟨hz, _⟩ | ⟨_, h1, h2⟩
  · rw [h.left] at hz; cases hz
  · refine ⟨h1, ?_⟩
    rw [h2] at hu ⊢
    exact {
      on := rfl
      left := by show spent D.left = -1; rw [h.left]; rfl
      len := by rw [wrote_length]; exact h.len
      upto := hu
      marks := fun j hj => by
        show standAt (wrote D.bk r (mkB (r + 1))) j = _
        by_cases he : j = r
        · subst he
          unfold standAt
          rw [wrote_get, if_pos rfl, List.getElem?_eq_getElem (by rw [h.len]; exact hr)]
          simp [Bk.stands]
        · rw [← h.marks j (by omega)]
          unfold standAt
          rw [wrote_get, if_neg he]
      cand := fun i x hx c hc => by
        rw [wrote_get] at hx
        split at hx
        · obtain ⟨y, hy, rfl⟩ := Option.map_eq_some_iff.1 hx
          rcases hc with rfl | hc
          · exact h.cand i y hy _ (.inl rfl)
          · rcases List.mem_append.1 hc with hc | hc
            · exact h.cand i y hy _ (.inr hc)
            · rw [List.mem_singleton.1 hc]
              exact mkB_foreign _
        · exact h.cand i x hx c hc }

/-- A journal that is called, whatever it answers; the other blocks have their letters. -/
structure AJ (fr sz s : Nat) (J : Jn) (D : Dv) (n : Nat) : Prop where
  fit : J.Fit
  live : J.dead = false
  efr : J.fr = fr
  esz : J.size = sz
  sq : J.seq + J.held ≤ s
  on : D.on = true
  left : D.left < 0
  len : D.bk.length = 60
  fits : fr + sz ≤ 60
  upto : Upto D n
  marks : ∀ i, i < 60 → (i < fr ∨ fr + sz ≤ i) → standAt D.bk i = mkB (i + 1)

theorem AJ.more {fr sz s n s' n' : Nat} {J : Jn} {D : Dv} (h : AJ fr sz s J D n) (h1 : s ≤ s') (h2 : n ≤ n') : AJ fr sz s' J D n' := { h with sq := Nat.le_trans h.sq h1, upto := h.upto.more h2 }

section
variable {w0 w w' : World} {b jb fr sz s n : Nat} {J : Jn} {D : Dv} {F : Nat → Prop}
theorem aj_forget (h : JM w0 w b jb J D F) (p : AJ fr sz s J D n) : Calls Try.prog 13 #[ptr jb] w fun e w' => (∃ v, e = .returned v) ∧ ∃ J' D' F', JM w0 w' b jb J' D' F' ∧ AJ fr sz s J' D' n := by
  refine (forget_ok h.head p.fit p.live).mono ?_
  rintro e w' ⟨rfl, hj, ho⟩
  have hsq := p.sq
  have hfit := p.fit
  refine ⟨⟨_, rfl⟩, _, D, F, {
    dev := h.dev.other ho fun q hq e => h.jF (e ▸ hq)
    head := hj
    fo := h.fo
    jo := h.jo
    jF := h.jF
    under := h.under.trans (ho.below h.under.size fun q e => e ▸ h.jo) }, { p with
    fit := {
      atl := by show ringAt _ _ _ < J.size; exact ringAt_le hfit.atl hfit.ahl
      few := hfit.few
      frl := hfit.frl
      ahl := Nat.zero_le _
      sql := by show J.seq + J.held + 0 < _; have := hfit.sql; omega
      sml := by show 0 < _; decide }
    sq := by show J.seq + J.held + 0 ≤ s; omega }⟩

theorem aj_append (h : JM w0 w b jb J D F) (p : AJ fr sz s J D n) {v : Value} {l : Bytes} (hv : Bs w v l) (hoff : ∀ q, v.ownBlock = some q → ¬ F q) (hl : l.length ≤ 4000) (hn : n ≤ 1000000) (hs : s ≤ 4611686018427387904) :
    Calls Try.prog 11 #[ptr jb, v] w fun e w' => (∃ v, e = .returned v) ∧ ∃ J' D' F', JM w0 w' b jb J' D' F' ∧ AJ fr sz (s + 1) J' D' (n + 20) ∧ Only (fun q => F q ∨ q = jb) w w' := by
  have hsq := p.sq
  have hfit := p.fit
  have h1 := p.efr
  have h2 := p.esz
  by_cases hr : J.size < J.ahead + nBlocks l.length
  · refine (append_full h.head p.fit p.live hv hr).mono ?_
    rintro e w' ⟨rfl, hb⟩
    exact ⟨⟨_, rfl⟩, J, D, F, h.later hb, { p with sq := by omega, upto := p.upto.more (by omega) }, Only.of_below hb _⟩
  · have hf : J.fr + J.size ≤ D.bk.length := by rw [p.len, h1, h2]; exact p.fits
    refine (append_go h.head p.fit h.dev h.jF p.upto (by omega) p.live (by omega) hf p.on (by omega) hv hoff).mono ?_
    rintro e w' ⟨rfl, hd, hj, ho⟩
    obtain ⟨w1, w2, w3⟩ := went_writeD (J := J) p.on hf hfit.atl (l := l) (by omega)
    obtain ⟨hc, hlf⟩ := w1.free p.left
    have hsp := w3 hc
    have hon : (writeD J D l).1.on = true := by
      rcases w1.ends with ⟨_, e⟩ | ⟨e, _⟩
      · exact e
      · rw [hc] at e; cases e
    have hA : appJ J D l = J.more (writeD J D l).2.1 := by unfold appJ; rw [if_pos hc]
    have hnp : nPieces l.length ≤ 9 := by unfold nPieces; omega
    refine ⟨⟨_, rfl⟩, _, _, _, h.step hd hj ho, ?_, ho⟩
    rw [hA]
    exact {
      fit := {
        atl := hfit.atl
        few := hfit.few
        frl := hfit.frl
        ahl := by
          show (writeD J D l).2.1.1 ≤ J.size
          rw [hsp, encS_spot]
          simp only
          omega
        sql := by show J.seq + (J.held + 1) < _; omega
        sml := by
          show (writeD J D l).2.1.2 < _
          rw [hsp]
          exact encS_sum _ _ _ _ }
      live := p.live
      efr := h1
      esz := h2
      sq := by show J.seq + (J.held + 1) ≤ s + 1; omega
      on := hon
      left := hlf
      len := by rw [w1.len]; exact p.len
      fits := p.fits
      upto := (write_upto p.upto).more (by omega)
      marks := fun i hi ho' => by
        rw [← p.marks i hi ho']
        exact w2 i (by rw [h1, h2]; exact ho') }

theorem aj_open (hD : Dev w b D F) (fo : ∀ q, F q → w0.heap.size ≤ q) (hu : Below w0.heap.size w0 w) (p : AD D 60) {a : Nat} (hn : fr + sz ≤ 60) (h2 : 2 ≤ sz) (ha : a < sz) (hs : 1 ≤ s ∧ s ≤ 4611686018427387904) :
    Calls Try.prog 22 #[ptr b, .int .i64 (fr : Int), .int .i64 (sz : Int), .int .i64 (a : Int), .int .u64 (s : Int)] w fun e w' => ∃ la lc J, e = .returned (.tuple #[ptr w.heap.size, .slice la 0 lc, err 0]) ∧ JM w0 w' b w.heap.size J D F ∧ AJ fr sz s J D 60 ∧ Below w.heap.size w w' := by
  have hh : Holds fr sz a s D.bk [] := Holds.fresh (fun i x _ hx => p.cand (fr + i) x hx) (by rw [p.len]; exact hn) h2 ha (by omega)
  obtain ⟨m, h1, h3, _⟩ := hh.found
  have hm : m = [] := List.map_eq_nil_iff.1 h3
  refine (open_ok hD p.on (fr := fr) (sz := sz) (a := a) (s := s) (by unfold mayLie; rw [p.len]; omega)).mono ?_
  rintro e w' ⟨lv, G, rfl, hrow, hG, hj, hb⟩
  rw [h1, hm] at hrow hj
  obtain ⟨la, lc, rfl⟩ := hrow.shape
  refine ⟨la, lc, _, rfl, JM.open hD fo hu hj hb, {
    fit := ⟨ha, by show sz ≤ 4096; omega, by show fr ≤ 4096; omega, Nat.zero_le _, by show s + (0 + 0) < _; omega, by show 0 < _; decide⟩
    live := rfl
    efr := rfl
    esz := rfl
    sq := by show s + (0 + 0) ≤ s; omega
    on := p.on
    left := by rw [p.left]; decide
    len := p.len
    fits := hn
    upto := p.upto
    marks := fun i hi _ => p.marks i hi }, hb⟩
end
end Go.Proofs.Ytijkkkiejdaljaa
