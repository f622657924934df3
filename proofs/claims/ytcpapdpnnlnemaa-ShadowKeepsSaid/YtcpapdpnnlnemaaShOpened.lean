/- The small functions of package shadow, as each answers: mayGen, turn, opened; condition: a block of 2^30 bytes at most. -/
import Derived.Test.YtcpapdpnnlnemaaShRoot
import Derived.Test.YtcpapdpnnlnemaaBlkAny
import Derived.Test.YtcpapdpnnlnemaaOcTake
namespace Go.Proofs.Ytcpapdpnnlnemaa
open Go.RowKit

theorem mayGen_any (g : Nat) (w : World) (hg : g < 18446744073709551616) : Calls Try.prog 25 #[.int .u64 (g : Int)] w fun e w' => e = .returned (.bool (genB g)) ∧ w = w' := by
  by_cases h1 : 1 ≤ g
  · have h1' : (1 : Int) ≤ (g : Int) := by omega
    by_cases h2 : g ≤ 4611686018427387904
    · have h2' : (g : Int) ≤ 4611686018427387904 := by omega
      rw [genB_iff.2 ⟨h1, h2⟩]
      clear h1 h2
      go_enter Try.func25, Try.ntmps25
      go_wp2
      go_ret
      exact ⟨rfl, rfl⟩
    · have h2' : ¬ (g : Int) ≤ 4611686018427387904 := by omega
      rw [show genB g = false by unfold genB; simp [h2]]
      clear h1 h2
      go_enter Try.func25, Try.ntmps25
      go_wp2
      go_ret
      exact ⟨rfl, rfl⟩
  · have h1' : ¬ (1 : Int) ≤ (g : Int) := by omega
    rw [show genB g = false by unfold genB; simp [h1]]
    clear h1
    go_enter Try.func25, Try.ntmps25
    go_wp2
    go_ret
    exact ⟨rfl, rfl⟩

theorem turn_any (g : Nat) (w : World) : Calls Try.prog 29 #[.int .u64 (g : Int)] w fun e w' => e = .returned (.int .i64 ((g % 2 : Nat) : Int)) ∧ w = w' := by
  have h1 : (g : Int) % 2 = ((g % 2 : Nat) : Int) := by omega
  have H := Lib.hid h1
  clear h1
  go_enter Try.func29, Try.ntmps29
  go_wp2
  go_ret
  refine ⟨?_, rfl⟩
  rw [← H.out]
  rfl

/-- A root, as it is answered. -/
abbrev rootV (g : Nat) (v : Value) : Value := .agg #[.int .u64 (g : Int), v]
/-- New bytes. -/
def New (w w' : World) (v : Value) (l : Bytes) : Prop := Bs w' v l ∧ ∀ q, v.ownBlock = some q → w.heap.size ≤ q
def Opened (w : World) (k : Nat) (b : Bytes) (e : Ending) (w' : World) : Prop := ∃ v, e = .returned (rootV (rootOf k b).1 v) ∧ New w w' v (rootOf k b).2 ∧ Below w.heap.size w w'

/-- b[lo:], within the length; it lies in the same block. -/
theorem run_slice_low {P : Program} {t e : TypeId} (T : ByteTy P t e) {v : Value} {n : Nat} {a : Option Addr} {cap : Nat} (hv : v = .slice a n cap) (k1 : IntKind) (lo : Nat) (h1 : lo ≤ n) :
    (∀ w1, (Instr.slice t v (some (.int k1 (lo : Int))) none none).run P w1 = .ok (sliced a lo n cap 1) w1) := by
  intro w1
  subst hv
  rw [run_slice_l w1 t a n cap T.slice' k1 _ (by omega) (by omega), T.elem, T.run_size]
  simp [Result.andThen]
theorem bs_from {w : World} {a : Option Addr} {n cap : Nat} {l : Bytes} (h : Bs w (.slice a n cap) l) (lo : Nat) (hl : lo ≤ n) : Bs w (sliced a lo n cap 1) (l.drop lo) := by
  obtain ⟨a', cap', e, g1, g2, g3, g4⟩ := h
  simp only [Value.slice.injEq] at e
  obtain ⟨rfl, rfl, rfl⟩ := e
  have := bs_sliced g1 g2 g3 g4 lo l.length hl (Nat.le_refl _)
  rwa [List.take_of_length_le (Nat.le_refl _)] at this

theorem sliced_own (a : Option Addr) (lo hi cap sz n c : Nat) : (sliced a lo hi cap sz).ownBlock = (Value.slice a n c).ownBlock := by
  unfold sliced
  cases a with
  | none => simp [Value.ownBlock]
  | some a =>
    split
    · rfl
    · simp only [Option.map_some, Value.ownBlock, Addr.add]
      split <;> rfl

/-- A result that lies in a cell. -/
theorem results_cell {P : Program} {fn : Func} {t : Tmp} {ty : TypeId} (h : fn.results = #[.cell t ty]) {tmps : Array Value} {w : World} {a : Addr} {v : Value} (ha : tmps.getD t undef = .pointer (some a))
    (hl : (loadVar ty a).run P w = .ok v w) : (results fn tmps).run P w = .ok v w := by
  have ha' : tmps[t]?.getD undef = .pointer (some a) := by rw [← Array.getD_eq_getD_getElem?]; exact ha
  simp [results, h, ha', asAddr, hl]
theorem load_root {w : World} {g n : Nat} {v : Value} (h : Cel w g [.int .u64 (n : Int), v] 78) (hv : ∃ a l c, v = .slice a l c) : (loadVar 78 ⟨g, 0, none⟩).run Try.prog w = .ok (rootV n v) w := by
  obtain ⟨a, l, c, rfl⟩ := hv
  have c0 : w.cell? ⟨g, 0, none⟩ = some (.int .u64 (n : Int)) := by rw [h.cell]; rfl
  have c1 : w.cell? ⟨g, 1, none⟩ = some (.slice a l c) := by rw [h.cell]; rfl
  unfold rootV
  go_simp

theorem openV_len (l : Bytes) : (openV l).2.1.length ≤ l.length := by
  unfold openV
  split
  · split
    · simp only [List.length_take, List.length_drop]; omega
    · exact Nat.zero_le _
  · exact Nat.zero_le _
theorem new_nil (w w' : World) : New w w' (.slice none 0 0) [] := ⟨Bs.nil _, fun q h => by cases h⟩
theorem opened_no {w w' : World} {k : Nat} {b : Bytes} (h : ¬ isRoot k b) (hb : Below w.heap.size w w') : Opened w k b (.returned (rootV 0 (.slice none 0 0))) w' := by
  unfold Opened
  rw [rootOf_no h]
  exact ⟨_, rfl, new_nil _ _, hb⟩

set_option maxHeartbeats 1000000 in
theorem opened_any {b : Value} {l : Bytes} (k : Nat) (w : World) (hb : Bs w b l) (hl : l.length ≤ 1073741824) : Calls Try.prog 55 #[.int .i64 (k : Int), b] w (Opened w k l) := by
  have hbA := hb.alloc (.cells #[.int .u64 0, .slice none 0 0] 78)
  have hz := openV_len l
  have hO := blkOpen_any (w.alloc (.cells #[.int .u64 0, .slice none 0 0] 78)) hbA
  have hno := fun (w' : World) (h : ¬ isRoot k l) => opened_no (w := w) (w' := w') h
  have hyes : isRoot k l → rootOf k l = (genOf l, (openV l).2.1.drop 8) := rootOf_yes
  have hA : Below w.heap.size w (w.alloc (.cells #[.int .u64 0, .slice none 0 0] 78)) := (Below.refl _ _).alloc (Nat.le_refl _) _
  have hc := Cel.new w #[.int .u64 0, .slice none 0 0] 78
  unfold Opened at *
  unfold isRoot genOf at hno hyes
  unfold Opens at hO
  generalize openV l = x at *
  obtain ⟨kd, bd, cd⟩ := x
  simp only at hz hO hno hyes
  have H := Lib.hid (And.intro hO (And.intro hno (And.intro hyes (And.intro hA hc))))
  clear hbA hO hno hyes hA hc hb
  go_enter Try.func55, Try.ntmps55
  go_wp2_with fail
  refine H.out.1.mono ?_
  rintro e w1 ⟨v1, rfl, o1, b1⟩
  have hc1 := H.out.2.2.2.2.below b1 H.out.2.2.2.2.lt
  have k0 : w1.cell? ⟨w.heap.size, 0, none⟩ = some (.int .u64 0) := by rw [hc1.cell]; rfl
  have k1 : w1.cell? ⟨w.heap.size, 1, none⟩ = some (.slice none 0 0) := by rw [hc1.cell]; rfl
  have f1 := fun i => hc1.frozen i
  have hlt := hc1.lt
  have hbw := H.out.2.2.2.1.trans (b1.mono H.out.2.2.2.1.size)
  have H1 := Lib.hid (And.intro o1 (And.intro b1 (And.intro hbw hc1)))
  clear b1 hbw hc1
  by_cases h1 : cd = 0
  · by_cases h2 : kd = 1
    · subst h1
      subst h2
      have hT := take_any (b := v1) (l := bd) 0 8 w1 o1.bs (by omega)
      obtain ⟨a1, c1, rfl, hbs⟩ := o1.bs.shape
      have hmay : takeMay bd 0 8 := ⟨rfl, by omega, by omega⟩
      by_cases h3 : 8 ≤ bd.length
      · have eE : takeE bd 0 8 = 0 := by unfold takeE; rw [if_pos hmay, if_pos (by omega)]
        have eX : takeX bd 0 8 = 8 := by unfold takeX; rw [if_pos ⟨hmay, by omega⟩]; rfl
        have eN : takeN bd 0 8 = beNat (bd.take 8) := by unfold takeN; rw [if_pos ⟨hmay, by omega⟩]; rfl
        have hg := beNat_lt (bd.take 8)
        rw [List.length_take, show min 8 bd.length = 8 by omega] at hg
        unfold Takes at hT
        rw [eE, eX, eN] at hT
        obtain ⟨g, hgg⟩ : ∃ g, beNat (bd.take 8) = g := ⟨_, rfl⟩
        rw [hgg] at hT hg
        have HI := Lib.hid (And.intro H.out.2.1 (And.intro H.out.2.2.1 (And.intro o1 hgg)))
        have HT := Lib.hid hT
        have h3' : (8 : Int) ≤ (bd.length : Int) := by omega
        have hzz : (bd.length : Int) ≤ 1073741824 := by omega
        clear H hT eE eX eN hmay hgg o1
        go_wp2_with fail
        clear k0 k1 f1
        refine HT.out.mono ?_
        rintro e w2 ⟨rfl, b2⟩
        have hc2 := H1.out.2.2.2.below b2 H1.out.2.2.2.lt
        have k0 : w2.cell? ⟨w.heap.size, 0, none⟩ = some (.int .u64 0) := by rw [hc2.cell]; rfl
        have k1 : w2.cell? ⟨w.heap.size, 1, none⟩ = some (.slice none 0 0) := by rw [hc2.cell]; rfl
        have f1 := fun i => hc2.frozen i
        have hlt := hc2.lt
        have hbw := H1.out.2.2.1.trans (b2.mono H1.out.2.2.1.size)
        have hmg := fun W => mayGen_any g W (by omega)
        have htu := fun W => turn_any g W
        by_cases h4 : genB g = true
        · rw [h4] at hmg
          by_cases h5 : g % 2 = k
          · rw [h5] at htu
            have hL : bd.length ≤ 488 ∨ 488 < bd.length := by omega
            have H2 := Lib.hid (And.intro b2 (And.intro hbw (And.intro hc2 (And.intro hmg htu))))
            clear b2 hbw hc2 hmg htu HT
            rcases hL with hL | hL
            · have hroot := HI.out.2.1 ⟨trivial, trivial, h3, by rw [HI.out.2.2.2]; exact h4, by rw [HI.out.2.2.2]; exact h5, hL⟩
              rw [HI.out.2.2.2] at hroot
              have hL' : (bd.length : Int) - 8 ≤ 480 := by omega
              have hrs := run_slice_low (P := Try.prog) bt (v := .slice a1 bd.length c1) rfl .i64 8 h3
              have hv2 := bs_from (hbs.below H2.out.1) 8 h3
              have hown := fun q (hq : (sliced a1 8 bd.length c1 1).ownBlock = some q) => (HI.out.2.2.1.own (q := q) (by rw [← sliced_own a1 8 bd.length c1 1 bd.length c1]; exact hq)).1
              have H3 := Lib.hid (And.intro hroot (And.intro hv2 hown))
              clear hroot hv2 hown h3 h4 h5 hL hbs hrs
              by_cases hc8 : c1 = 8
              all_goals
                have H4 := Lib.hid hc8
                clear hc8
                go_wp2_with fail
                refine (H2.out.2.2.2.1 _).mono ?_
                rintro e w3 ⟨rfl, rfl⟩
                go_wp2_with fail
                refine (H2.out.2.2.2.2 _).mono ?_
                rintro e w3 ⟨rfl, rfl⟩
                have hc8 := H4.out
                go_wp2_with fail
                refine bodyPost_ret (results_cell rfl rfl (load_root ((H2.out.2.2.1.set 0 (.int .u64 (g : Int))).set 1 _) ⟨_, _, _, rfl⟩)) rfl ?_
                have ho : Only (· = w.heap.size) w2 ((w2.setCell ⟨w.heap.size, 0, none⟩ (.int .u64 (g : Int))).setCell ⟨w.heap.size, 1, none⟩ (sliced a1 8 bd.length c1 1)) := ((Only.refl (· = w.heap.size) w2).setCell (p := ⟨w.heap.size, 0, none⟩) (.inl rfl) _).setCell (p := ⟨w.heap.size, 1, none⟩) (.inl rfl) _
                have hfin := H3.out.2.1.only ho fun q hq e => by have := H3.out.2.2 q hq; simp at this; omega
                have hbel := (H2.out.2.1.setCell (p := ⟨w.heap.size, 0, none⟩) (Nat.le_refl _) (.int .u64 (g : Int))).setCell (p := ⟨w.heap.size, 1, none⟩) (Nat.le_refl _) (sliced a1 8 bd.length c1 1)
                have hown : ∀ q, (sliced a1 8 bd.length c1 1).ownBlock = some q → w.heap.size ≤ q := fun q hq => by have := H3.out.2.2 q hq; simp at this; omega
                rw [H3.out.1]
                simp only [sliced, if_pos, if_neg, hc8, not_false_eq_true] at hfin hbel hown
                exact ⟨_, rfl, ⟨hfin, hown⟩, hbel⟩
            · have hL' : ¬ (bd.length : Int) - 8 ≤ 480 := by omega
              have HN := Lib.hid (HI.out.1 · (fun h => absurd h.2.2.2.2.2 (by omega)))
              clear h3 h4 h5 hL hbs
              go_wp2_with fail
              refine (H2.out.2.2.2.1 _).mono ?_
              rintro e w3 ⟨rfl, rfl⟩
              go_wp2_with fail
              refine (H2.out.2.2.2.2 _).mono ?_
              rintro e w3 ⟨rfl, rfl⟩
              go_wp2_with fail
              refine bodyPost_ret (results_cell rfl rfl (load_root ((H2.out.2.2.1.set 0 (.int .u64 0)).set 1 (.slice none 0 0)) ⟨_, _, _, rfl⟩)) rfl ?_
              exact HN.out _ ((H2.out.2.1.setCell (p := ⟨w.heap.size, 0, none⟩) (by simp) _).setCell (p := ⟨w.heap.size, 1, none⟩) (by simp) _)
          · have h5' : ¬ ((g % 2 : Nat) : Int) = (k : Int) := by omega
            have hq : ((((g % 2 : Nat) : Int)) != (k : Int)) = true := by simpa using h5'
            have HN := Lib.hid (HI.out.1 · (fun h => h5 (by rw [← HI.out.2.2.2]; exact h.2.2.2.2.1)))
            have H2 := Lib.hid (And.intro b2 (And.intro hbw (And.intro hc2 (And.intro hmg htu))))
            clear b2 hbw hc2 hmg htu HT h3 h4 h5 hbs
            go_wp2_with fail
            refine (H2.out.2.2.2.1 _).mono ?_
            rintro e w3 ⟨rfl, rfl⟩
            go_wp2_with fail
            refine (H2.out.2.2.2.2 _).mono ?_
            rintro e w3 ⟨rfl, rfl⟩
            go_wp2_with fail
            refine bodyPost_ret (results_cell rfl rfl (load_root ((H2.out.2.2.1.set 0 (.int .u64 0)).set 1 (.slice none 0 0)) ⟨_, _, _, rfl⟩)) rfl ?_
            exact HN.out _ ((H2.out.2.1.setCell (p := ⟨w.heap.size, 0, none⟩) (by simp) _).setCell (p := ⟨w.heap.size, 1, none⟩) (by simp) _)
        · have h4' : genB g = false := by simpa using h4
          rw [h4'] at hmg
          have HN := Lib.hid (HI.out.1 · (fun h => h4 (by rw [← HI.out.2.2.2]; exact h.2.2.2.1)))
          have H2 := Lib.hid (And.intro b2 (And.intro hbw (And.intro hc2 (And.intro hmg htu))))
          clear b2 hbw hc2 hmg htu HT h3 h4 h4' hbs
          go_wp2_with fail
          refine (H2.out.2.2.2.1 _).mono ?_
          rintro e w3 ⟨rfl, rfl⟩
          go_wp2_with fail
          refine bodyPost_ret (results_cell rfl rfl (load_root ((H2.out.2.2.1.set 0 (.int .u64 0)).set 1 (.slice none 0 0)) ⟨_, _, _, rfl⟩)) rfl ?_
          exact HN.out _ ((H2.out.2.1.setCell (p := ⟨w.heap.size, 0, none⟩) (by simp) _).setCell (p := ⟨w.heap.size, 1, none⟩) (by simp) _)
      · have hlt8 : (bd.length : Int) < 8 := by omega
        have eE : takeE bd 0 8 = 5 := by unfold takeE; rw [if_pos hmay, if_neg (by omega)]
        have eX : takeX bd 0 8 = 0 := by unfold takeX; rw [if_neg (by omega)]
        have eN : takeN bd 0 8 = 0 := by unfold takeN; rw [if_neg (by omega)]
        unfold Takes at hT
        rw [eE, eX, eN] at hT
        have HN := Lib.hid (H.out.2.1 · (fun h => h3 h.2.2.1))
        have HT := Lib.hid hT
        clear H hT eE eX eN hmay o1 h3 hbs
        go_wp2_with fail
        clear k0 k1 f1
        refine HT.out.mono ?_
        rintro e w2 ⟨rfl, b2⟩
        have hc2 := H1.out.2.2.2.below b2 H1.out.2.2.2.lt
        have k0 : w2.cell? ⟨w.heap.size, 0, none⟩ = some (.int .u64 0) := by rw [hc2.cell]; rfl
        have k1 : w2.cell? ⟨w.heap.size, 1, none⟩ = some (.slice none 0 0) := by rw [hc2.cell]; rfl
        have f1 := fun i => hc2.frozen i
        have hlt := hc2.lt
        have hbw := H1.out.2.2.1.trans (b2.mono H1.out.2.2.1.size)
        have H2 := Lib.hid (And.intro b2 (And.intro hbw hc2))
        clear b2 hbw hc2 HT
        go_wp2_with fail
        refine bodyPost_ret (results_cell rfl rfl (load_root ((H2.out.2.2.set 0 (.int .u64 0)).set 1 (.slice none 0 0)) ⟨_, _, _, rfl⟩)) rfl ?_
        exact HN.out _ ((H2.out.2.1.setCell (p := ⟨w.heap.size, 0, none⟩) (by simp) _).setCell (p := ⟨w.heap.size, 1, none⟩) (by simp) _)
    · have h2' : ¬ ((kd.toNat : Int) = 1) := by
        intro e
        apply h2
        apply UInt8.toNat_inj.1
        rw [show (1 : UInt8).toNat = 1 from rfl]
        omega
      have hq : ((kd.toNat : Int) != 1) = true := by simpa using h2'
      have HN := Lib.hid (H.out.2.1 · (fun h => h2 h.2.1))
      clear h2 o1
      subst h1
      go_wp2_with fail
      refine bodyPost_ret (results_cell rfl rfl (load_root ((H1.out.2.2.2.set 0 (.int .u64 0)).set 1 (.slice none 0 0)) ⟨_, _, _, rfl⟩)) rfl ?_
      exact HN.out _ ((H1.out.2.2.1.setCell (p := ⟨w.heap.size, 0, none⟩) (by simp) _).setCell (p := ⟨w.heap.size, 1, none⟩) (by simp) _)
  · have HN := Lib.hid (H.out.2.1 · (fun h => h1 h.1))
    have hq : (cd != 0) = true := by simpa using h1
    clear h1 o1
    go_wp2_with fail
    refine bodyPost_ret (results_cell rfl rfl (load_root ((H1.out.2.2.2.set 0 (.int .u64 0)).set 1 (.slice none 0 0)) ⟨_, _, _, rfl⟩)) rfl ?_
    exact HN.out _ ((H1.out.2.2.1.setCell (p := ⟨w.heap.size, 0, none⟩) (by simp) _).setCell (p := ⟨w.heap.size, 1, none⟩) (by simp) _)
end Go.Proofs.Ytcpapdpnnlnemaa
