/- The anchor of the statements of layer 5 (the chapter's examples): it answers true and writes nothing that was there; no condition. -/
import Derived.Test.YtijkkkiejdaljaaJrWalk
import Derived.Test.YtijkkkiejdaljaaJrRefs
namespace Go.Proofs.Ytijkkkiejdaljaa
open Go.RowKit

theorem upto_fresh (n : Nat) : Upto (fresh n) 0 := fun _ _ hx => by rw [(fresh_get hx).1]; exact Nat.le_refl _
theorem holds_fresh {n fr sz a s : Nat} (hn : fr + sz ≤ n) (h2 : 2 ≤ sz) (ha : a < sz) (hs : s < 18446744073709551616) : Holds fr sz a s (fresh n).bk [] :=
  Holds.fresh (fun i x _ hx => fresh_foreign (fr + i) x hx) (by simpa [fresh] using hn) h2 ha hs

/-- A journal opened on a device of one's own. -/
theorem JM.open {w0 w w' : World} {b : Nat} {D : Dv} {F : Nat → Prop} {J : Jn} (hd : Dev w b D F) (fo : ∀ q, F q → w0.heap.size ≤ q) (hu : Below w0.heap.size w0 w) (hj : JAt w' w.heap.size b J) (hb : Below w.heap.size w w') : JM w0 w' b w.heap.size J D F where
  dev := hd.below hb
  head := hj
  fo := fo
  jo := hu.size
  jF hf := by have := hd.fl _ hf; omega
  under := hu.trans (hb.mono hu.size)

/-- There is a journal of one's own, at this place, with this mark, that holds L; the power does not go. -/
def Has (w0 w : World) (b jb n fr sz a s : Nat) (L : List Bytes) : Prop := ∃ J D F, JM w0 w b jb J D F ∧ PS J D L n ∧ (J.fr = fr ∧ J.size = sz ∧ J.at_ = a ∧ J.seq = s) ∧ D.left < 0

section
variable {w0 w w2 : World} {b jb n fr sz a s : Nat} {L : List Bytes}
theorem Has.under (h : Has w0 w b jb n fr sz a s L) : Below w0.heap.size w0 w := let ⟨_, _, _, h, _⟩ := h; h.under
theorem Has.later (h : Has w0 w b jb n fr sz a s L) (hb : Below w.heap.size w w2) : Has w0 w2 b jb n fr sz a s L := let ⟨J, D, F, h1, h2⟩ := h; ⟨J, D, F, h1.later hb, h2⟩

theorem Has.more (h : Has w0 w b jb n fr sz a s L) {m : Nat} (hm : n ≤ m) : Has w0 w b jb m fr sz a s L := by
  obtain ⟨J, D, F, h1, h2, h3⟩ := h
  exact ⟨J, D, F, h1, { h2 with upto := h2.upto.more hm }, h3⟩

theorem has_append (h : Has w0 w b jb n fr sz a s L) (hb : Below w.heap.size w w2) {v : Value} {l : Bytes} (hv : Bs w2 v l) (hnew : ∀ q, v.ownBlock = some q → w.heap.size ≤ q) (hl : l.length ≤ 1000000) (hn : n + l.length + 10 < 4294967296) (hs : s + L.length + 1 < 18446744073709551616) (hr : takenBy L + nBlocks l.length ≤ sz) :
    Calls Try.prog 11 #[ptr jb, v] w2 fun e w' => e = .returned (err 0) ∧ Has w0 w' b jb (n + nPieces l.length + 3) fr sz a s (L ++ [l]) := by
  obtain ⟨J, D, F, hm, hp, ⟨rfl, rfl, rfl, rfl⟩, hf⟩ := h
  refine (jm_append (hm.later hb) hp hv (fun q hq hF => by have := hm.dev.fl q hF; have := hnew q hq; omega) hl hn (by rw [hp.held]; exact hs) hr hf).mono ?_
  rintro e w' ⟨rfl, J', D', hm', hp', ⟨e1, e2, e3, e4⟩, hf', _⟩
  exact ⟨rfl, J', D', _, hm', hp', ⟨e1, e2, e3, e4⟩, hf'⟩
theorem has_full (h : Has w0 w b jb n fr sz a s L) (hb : Below w.heap.size w w2) {v : Value} {l : Bytes} (hv : Bs w2 v l) (hr : sz < takenBy L + nBlocks l.length) :
    Calls Try.prog 11 #[ptr jb, v] w2 fun e w' => e = .returned (err 7) ∧ Has w0 w' b jb n fr sz a s L := by
  obtain ⟨J, D, F, hm, hp, ⟨rfl, rfl, rfl, rfl⟩, hf⟩ := h
  refine (jm_full (hm.later hb) hp hv hr).mono ?_
  rintro e w' ⟨rfl, hm', _⟩
  exact ⟨rfl, J, D, F, hm', hp, ⟨rfl, rfl, rfl, rfl⟩, hf⟩
theorem has_forget (h : Has w0 w b jb n fr sz a s L) :
    Calls Try.prog 13 #[ptr jb] w fun e w' => e = .returned (err 0) ∧ Has w0 w' b jb n fr sz (ringAt a sz (takenBy L)) (s + L.length) [] := by
  obtain ⟨J, D, F, hm, hp, ⟨rfl, rfl, rfl, rfl⟩, hf⟩ := h
  refine (jm_forget hm hp).mono ?_
  rintro e w' ⟨rfl, hm', hp', _⟩
  refine ⟨rfl, _, D, F, hm', hp', ⟨rfl, rfl, ?_, ?_⟩, hf⟩
  · rw [← hp.ahead]; rfl
  · rw [← hp.held]; rfl
theorem has_free (h : Has w0 w b jb n fr sz a s L) :
    Calls Try.prog 25 #[ptr jb] w fun e w' => e = .returned (.int .i64 ((sz : Int) - (takenBy L : Nat))) ∧ Has w0 w' b jb n fr sz a s L := by
  obtain ⟨J, D, F, hm, hp, ⟨rfl, rfl, rfl, rfl⟩, hf⟩ := h
  refine (jm_free hm hp).mono ?_
  rintro e w' ⟨rfl, hm', _⟩
  exact ⟨rfl, J, D, F, hm', hp, ⟨rfl, rfl, rfl, rfl⟩, hf⟩
theorem has_mark (h : Has w0 w b jb n fr sz a s L) :
    Calls Try.prog 24 #[ptr jb] w fun e w' => e = .returned (.tuple #[.int .i64 (ringAt a sz (takenBy L) : Nat), .int .u64 ((s : Int) + (L.length : Int))]) ∧ Has w0 w' b jb n fr sz a s L := by
  obtain ⟨J, D, F, hm, hp, ⟨rfl, rfl, rfl, rfl⟩, hf⟩ := h
  refine (jm_mark hm hp).mono ?_
  rintro e w' ⟨rfl, hm', _⟩
  exact ⟨rfl, J, D, F, hm', hp, ⟨rfl, rfl, rfl, rfl⟩, hf⟩
theorem has_open (h : Has w0 w b jb n fr sz a s L) (hs : 1 ≤ s ∧ s ≤ 4611686018427387904) :
    Calls Try.prog 22 #[ptr b, .int .i64 (fr : Int), .int .i64 (sz : Int), .int .i64 (a : Int), .int .u64 (s : Int)] w fun e w' => ∃ p lv G, e = .returned (.tuple #[ptr p, lv, err 0]) ∧ RowG w' G lv L ∧ Has w0 w' b jb n fr sz a s L ∧ Below w.heap.size w w' := by
  obtain ⟨J, D, F, hm, hp, ⟨rfl, rfl, rfl, rfl⟩, hf⟩ := h
  refine (dev_open hm.dev hp.on hp.clean hp.upto hp.holds hs hp.short).mono ?_
  rintro e w' ⟨lv, G, J', rfl, hrow, _, _, _, _, _, _, _, hb⟩
  exact ⟨_, lv, G, rfl, hrow, ⟨J, D, F, hm.later hb, hp, ⟨rfl, rfl, rfl, rfl⟩, hf⟩, hb⟩
theorem has_open_mark (h : Has w0 w b jb n fr sz a s L) (hs : 1 ≤ s + L.length ∧ s + L.length ≤ 4611686018427387904) :
    Calls Try.prog 22 #[ptr b, .int .i64 (fr : Int), .int .i64 (sz : Int), .int .i64 (ringAt a sz (takenBy L) : Nat), .int .u64 ((s + L.length : Nat) : Int)] w fun e w' => ∃ p lv G, e = .returned (.tuple #[ptr p, lv, err 0]) ∧ RowG w' G lv [] ∧ Has w0 w' b jb n fr sz a s L ∧ Below w.heap.size w w' := by
  obtain ⟨J, D, F, hm, hp, ⟨rfl, rfl, rfl, rfl⟩, hf⟩ := h
  refine (dev_open hm.dev hp.on hp.clean hp.upto (hp.holds.forget (by omega)) hs (fun _ hx => by cases hx)).mono ?_
  rintro e w' ⟨lv, G, J', rfl, hrow, _, _, _, _, _, _, _, hb⟩
  exact ⟨_, lv, G, rfl, hrow, ⟨J, D, F, hm.later hb, hp, ⟨rfl, rfl, rfl, rfl⟩, hf⟩, hb⟩
end

/-- A journal opened on a new device. -/
theorem has_new {w0 w : World} {b m fr sz a s : Nat} (h : Mine w0 w b (fresh m)) (hn : fr + sz ≤ m) (h2 : 2 ≤ sz) (ha : a < sz) (hs : 1 ≤ s ∧ s ≤ 4611686018427387904) :
    Calls Try.prog 22 #[ptr b, .int .i64 (fr : Int), .int .i64 (sz : Int), .int .i64 (a : Int), .int .u64 (s : Int)] w fun e w' => ∃ lv G, e = .returned (.tuple #[ptr w.heap.size, lv, err 0]) ∧ RowG w' G lv [] ∧ Has w0 w' b w.heap.size 0 fr sz a s [] := by
  obtain ⟨F, hD, fo, hu⟩ := h
  refine (dev_open hD (show (fresh m).on = true from rfl) (clean_fresh m) (upto_fresh m) (holds_fresh hn h2 ha (by omega)) hs (fun _ hx => by cases hx)).mono ?_
  rintro e w' ⟨lv, G, J, rfl, hrow, hG, hj, hp, e1, e2, e3, e4, hb⟩
  exact ⟨lv, G, rfl, hrow, J, _, F, JM.open hD fo hu hj hb, hp, ⟨e1, e2, e3, e4⟩, by show (-1 : Int) < 0; decide⟩

theorem take_two_text : takenBy [[97, 98]] + nBlocks 481 = 5 := by decide

set_option maxRecDepth 100000 in
set_option maxHeartbeats 4000000 in
theorem works_any (w : World) : Calls Try.prog 8 #[] w (Yes w) := by
  have hcv := fun (w : World) (C : Array Value) (n c : Nat) => Lib.run_convert_bytes_const (P := Try.prog) w 37 5 C n c Try.underlying37 Try.underlying5
  have h1 : Calls Try.prog 21 #[.int .i64 20] w _ := m_new 20 w (by decide) (by decide)
  have H1 := Lib.hid h1
  clear h1
  go_enter Try.func8, Try.ntmps8
  go_wp2_with fail
  refine H1.out.mono ?_
  rintro e w1 ⟨b, rfl, hM⟩
  have h2 : Calls Try.prog 22 #[ptr b, .int .i64 5, .int .i64 10, .int .i64 0, .int .u64 1] w1 _ := has_new (fr := 5) (sz := 10) (a := 0) (s := 1) hM (by decide) (by decide) (by decide) ⟨by decide, by decide⟩
  have H2 := Lib.hid h2
  clear h2 H1 hM
  go_wp2_with fail
  refine H2.out.mono ?_
  rintro e w2 ⟨lv, G, rfl, hrow, h⟩
  obtain ⟨la, lc, hlv⟩ := hrow.shape
  rw [List.length_nil] at hlv
  have H3 := Lib.hid h
  clear hrow h H2
  generalize w1.heap.size = jb at *
  subst hlv
  go_wp2_with fail
  -- ab
  have hb3 := below_text w2 #[.int .u8 97, .int .u8 98] (2, 3)
  refine (has_append H3.out hb3 (bs_text w2 _ [97, 98] 2 (2, 3) rfl rfl (by decide)) (fun q hq => by cases hq; exact Nat.le_refl _) (by decide) (by decide) (by decide) (by decide)).mono ?_
  rintro e w3 ⟨rfl, h⟩
  have h : Has w w3 b jb 100 5 10 0 1 [[97, 98]] := h.more (by decide)
  have H4 := Lib.hid h
  clear h hb3
  have ht : Calls Try.prog 10 #[.int .i64 481, .int .u8 120] w3 (Gives w3 (textL 481 120)) := text_any 481 120 w3 (by decide)
  have HT := Lib.hid ht
  clear ht
  go_wp2_with fail
  refine HT.out.mono ?_
  rintro e w4 ⟨v4, rfl, o4, b4⟩
  obtain ⟨T, hT⟩ : ∃ T, textL 481 120 = T := ⟨_, rfl⟩
  have hTl : T.length = 481 := by rw [← hT, textL_length]
  rw [hT] at o4
  have O4 := Lib.hid (And.intro o4 (And.intro b4 hTl))
  obtain ⟨a4, c4, hv4, _⟩ := o4.bs.shape
  rw [hTl] at hv4
  subst hv4
  have htk : takenBy [[97, 98], T] = 5 := by simp [takenBy, hTl, nBlocks, nPieces]
  clear o4 b4 hTl hT HT
  go_wp2_with fail
  refine (has_append H4.out O4.out.2.1 O4.out.1.bs (fun q hq => (O4.out.1.own hq).1) (by rw [O4.out.2.2]; decide) (by rw [O4.out.2.2]; decide) (by decide) (by rw [O4.out.2.2]; decide)).mono ?_
  rintro e w5 ⟨rfl, h⟩
  have h : Has w w5 b jb 200 5 10 0 1 [[97, 98], T] := h.more (by rw [O4.out.2.2]; decide)
  have H5 := Lib.hid (And.intro h htk)
  clear h htk H4
  go_wp2_with fail
  refine (has_free H5.out.1).mono ?_
  rintro e w6 ⟨he, h⟩
  rw [H5.out.2, show ((10 : Nat) : Int) - ((5 : Nat) : Int) = 5 from rfl] at he
  subst he
  have H6 := Lib.hid h
  clear h
  go_wp2_with fail
  refine (has_mark H6.out).mono ?_
  rintro e w7 ⟨he, h⟩
  rw [H5.out.2, show ((ringAt 0 10 5 : Nat) : Int) = 5 from rfl, show ((1 : Nat) : Int) + (([[97, 98], T] : List Bytes).length : Int) = 3 from rfl] at he
  subst he
  have h8 : Calls Try.prog 22 #[ptr b, .int .i64 5, .int .i64 10, .int .i64 0, .int .u64 1] w7 _ := has_open h ⟨by decide, by decide⟩
  have H7 := Lib.hid (And.intro h h8)
  clear h h8 H6
  go_wp2_with fail
  refine H7.out.2.mono ?_
  rintro e w8 ⟨p8, lv8, G8, rfl, row8, h, -⟩
  have h9 := has_open_mark h ⟨by simp, by simp⟩
  rw [H5.out.2] at h9
  change Calls Try.prog 22 #[ptr b, .int .i64 5, .int .i64 10, .int .i64 5, .int .u64 3] w8 _ at h9
  have H8 := Lib.hid (And.intro h (And.intro row8 h9))
  obtain ⟨a8, c8, hv8⟩ := row8.shape
  rw [show ([[97, 98], T] : List Bytes).length = 2 from rfl] at hv8
  subst hv8
  clear h row8 h9 H7
  go_wp2_with fail
  refine H8.out.2.2.mono ?_
  rintro e w9 ⟨p9, lv9, G9, rfl, row9, h, b9⟩
  obtain ⟨a9, c9, hv9⟩ := row9.shape
  rw [List.length_nil] at hv9
  subst hv9
  obtain ⟨g8, q8, e8, hc8⟩ := (H8.out.2.1.below b9).cells (show 0 < ([[97, 98], T] : List Bytes).length by simp)
  obtain ⟨a10, c10, hc10, bs10⟩ := hc8 0 [97, 98] rfl
  simp only [Value.slice.injEq] at e8
  obtain ⟨rfl, _, rfl⟩ := e8
  have k10 := run_string_bs bt (d := 9) Try.underlying9 w9 bs10
  rw [show ([97, 98] : List UInt8).length = 2 from rfl] at hc10 k10
  have H9 := Lib.hid h
  clear h row9 b9 hc8 bs10 H8
  have ht : Calls Try.prog 10 #[.int .i64 1921, .int .u8 121] w9 (Gives w9 (textL 1921 121)) := text_any 1921 121 w9 (by decide)
  have HT := Lib.hid ht
  clear ht
  go_wp2_with fail
  refine HT.out.mono ?_
  rintro e w11 ⟨v11, rfl, o11, b11⟩
  obtain ⟨a11, c11, hv11, _⟩ := o11.bs.shape
  rw [textL_length] at hv11
  subst hv11
  have hful : 10 < takenBy [[97, 98], T] + nBlocks (textL 1921 121).length := by rw [H5.out.2, textL_length]; decide
  have H11 := Lib.hid (And.intro o11.bs (And.intro b11 hful))
  clear o11 b11 hful HT hc10 k10
  go_wp2_with fail
  refine (has_full H9.out H11.out.2.1 H11.out.1 H11.out.2.2).mono ?_
  rintro e w12 ⟨rfl, h⟩
  have H12 := Lib.hid h
  have ht : Calls Try.prog 10 #[.int .i64 1920, .int .u8 121] w12 (Gives w12 (textL 1920 121)) := text_any 1920 121 w12 (by decide)
  have HT := Lib.hid ht
  clear ht h H9 H11
  go_wp2_with fail
  refine HT.out.mono ?_
  rintro e w13 ⟨v13, rfl, o13, b13⟩
  obtain ⟨T2, hT⟩ : ∃ T, textL 1920 121 = T := ⟨_, rfl⟩
  have hTl : T2.length = 1920 := by rw [← hT, textL_length]
  rw [hT] at o13
  have O13 := Lib.hid (And.intro o13 (And.intro b13 hTl))
  obtain ⟨a13, c13, hv13, _⟩ := o13.bs.shape
  rw [hTl] at hv13
  subst hv13
  have htk : takenBy [[97, 98], T, T2] = 10 := by
    have : takenBy [[97, 98], T, T2] = takenBy [[97, 98], T] + takenBy [T2] := takenBy_append [[97, 98], T] [T2]
    rw [this, H5.out.2, takenBy_one, hTl]
    decide
  have HK := Lib.hid htk
  clear o13 b13 hTl hT HT htk
  go_wp2_with fail
  refine (has_append H12.out O13.out.2.1 O13.out.1.bs (fun q hq => (O13.out.1.own hq).1) (by rw [O13.out.2.2]; decide) (by rw [O13.out.2.2]; decide) (by simp) (by rw [H5.out.2, O13.out.2.2]; decide)).mono ?_
  rintro e w14 ⟨rfl, h⟩
  have h : Has w w14 b jb 300 5 10 0 1 [[97, 98], T, T2] := h.more (by rw [O13.out.2.2]; decide)
  have H14 := Lib.hid h
  clear h H12 O13
  go_wp2_with fail
  refine (has_full H14.out (Below.refl _ _) (Bs.nil _) (by rw [HK.out]; decide)).mono ?_
  rintro e w15 ⟨rfl, h⟩
  have H15 := Lib.hid h
  clear h H14
  go_wp2_with fail
  refine (has_forget H15.out).mono ?_
  rintro e w16 ⟨rfl, h⟩
  rw [HK.out] at h
  have h : Has w w16 b jb 300 5 10 0 4 [] := h
  have H16 := Lib.hid h
  clear h H15
  go_wp2_with fail
  refine (has_free H16.out).mono ?_
  rintro e w17 ⟨rfl, h⟩
  have H17 := Lib.hid h
  clear h H16
  rw [show ((10 : Nat) : Int) - ((takenBy [] : Nat) : Int) = 10 from rfl]
  go_wp2_with fail
  refine (has_append H17.out (Below.refl _ _) (Bs.nil _) (fun q hq => by cases hq) (by decide) (by decide) (by decide) (by decide)).mono ?_
  rintro e w18 ⟨rfl, h⟩
  have H18 := Lib.hid h.under
  have h19 : Calls Try.prog 26 #[.int .i64 480] w18 _ := blocks_any 480 w18 (by decide) (by decide)
  have H19 := Lib.hid h19
  clear h H17 h19
  go_wp2_with fail
  refine H19.out.mono ?_
  rintro e w19 ⟨he, rfl⟩
  rw [show ((nBlocks (480 : Int).toNat : Nat) : Int) = 2 from rfl] at he
  subst he
  go_wp2
  go_ret
  exact ⟨rfl, H18.out⟩
end Go.Proofs.Ytijkkkiejdaljaa
