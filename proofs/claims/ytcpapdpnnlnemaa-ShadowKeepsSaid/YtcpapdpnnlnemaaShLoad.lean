/- Load of package shadow: what it answers of a device of whatever content; condition: the device lies in memory, or the pointer is nil. -/
import Derived.Test.YtcpapdpnnlnemaaShPlain
import Derived.Test.YtcpapdpnnlnemaaShOpened
import Derived.Test.YtcpapdpnnlnemaaDevPower
namespace Go.Proofs.Ytcpapdpnnlnemaa
open Go.RowKit

theorem results_cell_tmp {P : Program} {fn : Func} {t u : Tmp} {ty : TypeId} (h : fn.results = #[.cell t ty, .tmp u]) {tmps : Array Value} {w : World} {a : Addr} {v : Value} (ha : tmps.getD t undef = .pointer (some a))
    (hl : (loadVar ty a).run P w = .ok v w) : (results fn tmps).run P w = .ok (.tuple #[v, tmps.getD u undef]) w := by
  have ha' : tmps[t]?.getD undef = .pointer (some a) := by rw [← Array.getD_eq_getD_getElem?]; exact ha
  simp [results, h, ha', asAddr, hl]

/-- Of the first k blocks the greatest root. -/
def bestN (D : Dv) : Nat → Nat × Bytes
  | 0 => (0, [])
  | k + 1 => best (bestN D k) (rootOf k (stAt D k))
theorem best_none (k : Nat) (b : Bytes) : best (0, []) (rootOf k b) = rootOf k b := by
  unfold best
  split
  · rfl
  · rename_i h
    rcases rootOf_own k b with e | e
    · exact e.symm
    · simp only at h; omega
theorem bestN_two (D : Dv) : bestN D 2 = best (rootOf 0 (stAt D 0)) (rootOf 1 (stAt D 1)) := by
  show best (best (0, []) (rootOf 0 (stAt D 0))) (rootOf 1 (stAt D 1)) = _
  rw [best_none]
theorem bestN_gen (D : Dv) : ∀ k, (bestN D k).1 ≤ 4611686018427387904
  | 0 => Nat.zero_le _
  | k + 1 => by
    unfold bestN best
    split
    · exact rootOf_gen _ _
    · exact bestN_gen D k
def Great (w : World) (r : Nat × Bytes) (e : Ending) (w' : World) : Prop := ∃ v, e = .returned (.tuple #[rootV r.1 v, err 0]) ∧ New w w' v r.2 ∧ Below w.heap.size w w'

theorem New.slice {w w' : World} {v : Value} {l : Bytes} (h : New w w' v l) : ∃ a n c, v = .slice a n c := let ⟨_, _, e, _⟩ := h.1.shape; ⟨_, _, _, e⟩

set_option maxRecDepth 100000 in
set_option maxHeartbeats 1000000 in
theorem greatest_any {w : World} {b : Nat} {D : Dv} {F : Nat → Prop} (h : Dev w b D F) (ho : D.on = true) (h2 : 2 ≤ D.bk.length) : Calls Try.prog 43 #[ptr b] w (Great w (bestN D 2)) := by
  have HD := Lib.hid (And.intro h (And.intro ho h2))
  have hA : Below w.heap.size w (w.alloc (.cells #[.int .u64 0, .slice none 0 0] 78)) := (Below.refl _ _).alloc (Nat.le_refl _) _
  have hc := Cel.new w #[.int .u64 0, .slice none 0 0] 78
  have H := Lib.hid (And.intro hA hc)
  clear h ho h2 hA hc
  go_enter Try.func43, Try.ntmps43
  go_wp2
  go_loopw [8] (fun i wr => ∃ r : Nat, r ≤ 2 ∧ i = .int .i64 (r : Int) ∧ ∃ v, Cel wr w.heap.size [.int .u64 ((bestN D r).1 : Int), v] 78 ∧ Bs wr v (bestN D r).2 ∧ (∀ q, v.ownBlock = some q → w.heap.size < q) ∧ Below w.heap.size w wr) (fun i _ => 2 - (intOf i).toNat)
  case atStart => exact ⟨0, by omega, rfl, .slice none 0 0, H.out.2, Bs.nil _, (fun q h => by cases h), H.out.1⟩
  case round =>
    obtain ⟨r, hr, rfl, v, hcr, hbs, hown, hb⟩ := hrel
    by_cases hlt : r < 2
    · have hlt' : (r : Int) < 2 := by omega
      obtain ⟨x, hx⟩ : ∃ x, D.bk[r]? = some x := ⟨_, List.getElem?_eq_getElem (by have := HD.out.2.2; omega)⟩
      have hrd := read_ok (HD.out.1.below hb) HD.out.2.1 hx
      have hstx := stAt_of hx
      have hlen : x.stands.length = 512 := stands_len HD.out.1 hx
      have HR := Lib.hid (And.intro hrd (And.intro hcr (And.intro hbs (And.intro hown (And.intro hb (And.intro hstx hlen))))))
      clear hx hrd hcr hbs hown hb hstx hlen
      go_wp2_with fail
      refine HR.out.1.mono ?_
      rintro e w2 ⟨g, rfl, hg, hgz, b2⟩
      have hc2 := HR.out.2.1.below b2 HR.out.2.1.lt
      have hlt2 := hc2.lt
      have hb2 := HR.out.2.2.2.2.1.trans (b2.mono HR.out.2.2.2.2.1.size)
      have hbb : Bs w2 (.slice (some ⟨g, 0, none⟩) 512 512) x.stands := Blk.bs ⟨g, rfl, hg, HR.out.2.2.2.2.2.2⟩
      have hop := opened_any r w2 hbb (by have := HR.out.2.2.2.2.2.2; omega)
      have hold := HR.out.2.2.1.below b2
      have H2 := Lib.hid (And.intro hc2 (And.intro hb2 (And.intro hold hop)))
      clear hc2 hb2 hg b2 hbb hop hold
      go_wp2_with fail
      refine H2.out.2.2.2.mono ?_
      rintro e w3 ⟨v3, rfl, hn3, b3⟩
      obtain ⟨a3, n3, c3, rfl⟩ := hn3.slice
      obtain ⟨a, n, c, rfl⟩ : ∃ a n c, v = .slice a n c := let ⟨_, _, e, _⟩ := HR.out.2.2.1.shape; ⟨_, _, _, e⟩
      have hc3 := H2.out.1.below b3 H2.out.1.lt
      have hb3 := H2.out.2.1.trans (b3.mono H2.out.2.1.size)
      have hold3 := H2.out.2.2.1.below b3
      have hlt3 := hc3.lt
      have f3 := fun i => hc3.frozen i
      have m0 : w3.cell? ⟨w.heap.size, 0, none⟩ = some (.int .u64 ((bestN D r).1 : Int)) := by rw [hc3.cell]; rfl
      have m1 : w3.cell? ⟨w.heap.size, 1, none⟩ = some (.slice a n c) := by rw [hc3.cell]; rfl
      have hstep : bestN D (r + 1) = best (bestN D r) (rootOf r x.stands) := by rw [← HR.out.2.2.2.2.2.1]; rfl
      have HB := Lib.hid (And.intro hb3 (And.intro hold3 (And.intro hn3.1 (And.intro hc3 (And.intro hn3.2 (And.intro hstep (And.intro HR.out.2.2.2.1 hlt2)))))))
      clear hc3 hb3 hold3 hn3 b3 hstep
      generalize rootOf r x.stands = R3 at *
      generalize hB : bestN D r = R0 at *
      clear hB
      by_cases hgt : R0.1 < R3.1
      · have hgt' : (R0.1 : Int) < (R3.1 : Int) := by omega
        have hbest : best R0 R3 = R3 := by unfold best; rw [if_pos hgt]
        have HF := Lib.hid hbest
        clear hgt hbest
        go_wp2_with fail
        go_roundw
        case rel =>
          obtain ⟨hb3, hold3, hn3, hc3, hown3, hstep, _, hz⟩ := HB.out
          have ho : Only (· = w.heap.size) w3 (((w3.setCell ⟨w.heap.size, 0, none⟩ (.int .u64 (R3.1 : Int))).setCell ⟨w.heap.size, 1, none⟩ (.slice a3 n3 c3)).alloc (.cells #[.int .u64 (R3.1 : Int), .slice a3 n3 c3] 78)) := (((Only.refl (· = w.heap.size) w3).setCell (p := ⟨w.heap.size, 0, none⟩) (.inl rfl) _).setCell (p := ⟨w.heap.size, 1, none⟩) (.inl rfl) _).alloc _
          refine ⟨r + 1, by omega, by go_num, .slice a3 n3 c3, ?_, ?_, fun q hq => by have := hown3 q hq; omega, ((hb3.setCell (p := ⟨w.heap.size, 0, none⟩) (Nat.le_refl _) _).setCell (p := ⟨w.heap.size, 1, none⟩) (Nat.le_refl _) _).alloc (by simpa using hb3.size) _⟩
          · rw [hstep, HF.out]
            exact ((hc3.set 0 _).set 1 _).alloc _
          · rw [hstep, HF.out]
            exact hn3.only ho fun q hq e => by have := hown3 q hq; omega
        case measure => simp [intOf]; omega
      · have hgt' : ¬ (R0.1 : Int) < (R3.1 : Int) := by omega
        have hbest : best R0 R3 = R0 := by unfold best; rw [if_neg hgt]
        have HF := Lib.hid hbest
        clear hgt hbest
        go_wp2_with fail
        go_roundw
        case rel =>
          obtain ⟨hb3, hold3, _, hc3, _, hstep, hown, hz⟩ := HB.out
          have hnew : Below w3.heap.size w3 (w3.alloc (.cells #[.int .u64 (R3.1 : Int), .slice a3 n3 c3] 78)) := (Below.refl _ _).alloc (Nat.le_refl _) _
          refine ⟨r + 1, by omega, by go_num, .slice a n c, ?_, ?_, hown, hb3.trans (hnew.mono hb3.size)⟩
          · rw [hstep, HF.out]
            exact hc3.alloc _
          · rw [hstep, HF.out]
            exact hold3.below hnew
        case measure => simp [intOf]; omega
    · obtain rfl : r = 2 := by omega
      obtain ⟨a, n, c, rfl⟩ : ∃ a n c, v = .slice a n c := let ⟨_, _, e, _⟩ := hbs.shape; ⟨_, _, _, e⟩
      have k0 : wr.cell? ⟨w.heap.size, 0, none⟩ = some (.int .u64 ((bestN D 2).1 : Int)) := by rw [hcr.cell]; rfl
      have k1 : wr.cell? ⟨w.heap.size, 1, none⟩ = some (.slice a n c) := by rw [hcr.cell]; rfl
      have f1 := fun i => hcr.frozen i
      have hlt := hcr.lt
      have HR := Lib.hid (And.intro hcr (And.intro hbs (And.intro hown hb)))
      clear hcr hbs hown hb
      generalize bestN D 2 = R at *
      go_wp2_with fail
      have k3 := (HR.out.1.set 0 (.int .u64 (R.1 : Int))).set 1 (.slice a n c)
      refine bodyPost_ret (results_cell_tmp rfl rfl (load_root k3 ⟨_, _, _, rfl⟩)) rfl ?_
      have ho : Only (· = w.heap.size) wr ((wr.setCell ⟨w.heap.size, 0, none⟩ (.int .u64 (R.1 : Int))).setCell ⟨w.heap.size, 1, none⟩ (.slice a n c)) := ((Only.refl (· = w.heap.size) wr).setCell (p := ⟨w.heap.size, 0, none⟩) (.inl rfl) _).setCell (p := ⟨w.heap.size, 1, none⟩) (.inl rfl) _
      exact ⟨_, rfl, ⟨HR.out.2.1.only ho fun q hq e => by have := HR.out.2.2.1 q hq; omega, fun q hq => by have := HR.out.2.2.1 q hq; omega⟩, (HR.out.2.2.2.setCell (p := ⟨w.heap.size, 0, none⟩) (Nat.le_refl _) _).setCell (p := ⟨w.heap.size, 1, none⟩) (Nat.le_refl _) _⟩

/-- What Load answers. -/
def Loads (w : World) (r : Nat × Bytes × Int) (e : Ending) (w' : World) : Prop := ∃ v, e = .returned (.tuple #[.int .u64 (r.1 : Int), v, err r.2.2]) ∧ New w w' v r.2.1 ∧ Below w.heap.size w w'

theorem run_no_root : ∀ w : World, (Instr.field 78 (.agg #[.int .u64 0, .slice none 0 0]) 0).run Try.prog w = .ok (.int .u64 0) w := fun w => by kernel_rfl

theorem load_nil (w : World) : Calls Try.prog 22 #[.pointer none] w (Loads w (0, [], 2)) := by
  go_enter Try.func22, Try.ntmps22
  go_wp2
  go_ret3
  exact ⟨_, rfl, new_nil _ _, Below.refl _ _⟩

set_option maxRecDepth 100000 in
set_option maxHeartbeats 1000000 in
theorem load_any {w : World} {b : Nat} {D : Dv} {F : Nat → Prop} (h : Dev w b D F) : Calls Try.prog 22 #[ptr b] w (Loads w (loadV D)) := by
  by_cases ho : D.on = false
  · have hp := power_any h
    rw [ho] at hp
    rw [show loadV D = (0, [], 8) from if_pos ho]
    clear ho h
    go_enter Try.func22, Try.ntmps22
    go_wp2_with fail
    refine hp.mono ?_
    rintro e w1 ⟨rfl, rfl⟩
    go_wp2
    go_ret3
    exact ⟨_, rfl, new_nil _ _, Below.refl _ _⟩
  have ho' : D.on = true := by simpa using ho
  have hp := power_any h
  rw [ho'] at hp
  have hs := size_any h
  by_cases h2 : D.bk.length < 2
  · rw [show loadV D = (0, [], 1) from by unfold loadV; rw [if_neg ho, if_pos h2]]
    have h2' : (D.bk.length : Int) < 2 := by omega
    clear ho ho' h h2
    go_enter Try.func22, Try.ntmps22
    go_wp2_with fail
    refine hp.mono ?_
    rintro e w1 ⟨rfl, rfl⟩
    go_wp2_with fail
    refine hs.mono ?_
    rintro e w1 ⟨rfl, rfl⟩
    go_wp2
    go_ret3
    exact ⟨_, rfl, new_nil _ _, Below.refl _ _⟩
  have hg := greatest_any h ho' (by omega)
  have h2' : ¬ (D.bk.length : Int) < 2 := by omega
  have hl : loadV D = if (bestN D 2).1 = 0 then (0, [], 4) else ((bestN D 2).1, (bestN D 2).2, 0) := by
    unfold loadV
    rw [if_neg ho, if_neg h2, bestN_two]
  rw [hl]
  unfold Great at hg
  generalize bestN D 2 = R at *
  obtain ⟨L, hL⟩ : ∃ L, (if R.1 = 0 then (0, [], 4) else (R.1, R.2, 0) : Nat × Bytes × Int) = L := ⟨_, rfl⟩
  rw [hL]
  have H := Lib.hid (And.intro hp (And.intro hs (And.intro hg hL)))
  clear ho ho' h h2 hl hp hs hg hL
  go_enter Try.func22, Try.ntmps22
  go_wp2_with fail
  refine H.out.1.mono ?_
  rintro e w1 ⟨rfl, rfl⟩
  go_wp2_with fail
  refine H.out.2.1.mono ?_
  rintro e w1 ⟨rfl, rfl⟩
  go_wp2_with fail
  refine H.out.2.2.1.mono ?_
  rintro e w1 ⟨v, rfl, hn, hb⟩
  obtain ⟨a, n, c, rfl⟩ := hn.slice
  have hnew : Below w1.heap.size w1 (w1.alloc (.cells #[.int .u64 (R.1 : Int), .slice a n c] 78)) := (Below.refl _ _).alloc (Nat.le_refl _) _
  have HN := Lib.hid (And.intro hn (And.intro hb (And.intro hnew (hb.trans (hnew.mono hb.size)))))
  clear hn hb hnew
  have hL := H.out.2.2.2
  have hfld := run_no_root
  by_cases hz : R.1 = 0
  · have hz' : (R.1 : Int) = 0 := by omega
    rw [if_pos hz] at hL
    have HL := Lib.hid hL
    clear hz hL
    go_wp2_with fail
    go_ret3
    rw [← HL.out]
    exact ⟨_, rfl, new_nil _ _, HN.out.2.1.alloc HN.out.2.1.size _⟩
  · have hz' : ¬ (R.1 : Int) = 0 := by omega
    rw [if_neg hz] at hL
    have HL := Lib.hid hL
    clear hz hL
    go_wp2_with fail
    go_quiet (fail)
    go_wp2
    go_ret3
    rw [← HL.out]
    have hw : ∀ m, Below w1.heap.size w1 ((w1.alloc (.cells #[.int .u64 (R.1 : Int), .slice a n c] 78)).drewN m) := fun m => below_drewN ((Below.refl _ _).alloc (Nat.le_refl _) _) m
    exact ⟨_, rfl, ⟨HN.out.1.1.below (hw _), HN.out.1.2⟩, HN.out.2.1.trans ((hw _).mono HN.out.2.1.size)⟩
end Go.Proofs.Ytcpapdpnnlnemaa
