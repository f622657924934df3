/- A device, a journal on it, and the document's journal beside them, as the statements of layer 5 hold them: what stays, what each call answers; conditions: the sizes that each contract names. -/
import Derived.Test.YtijkkkiejdaljaaJrWorks
import Derived.Test.YtijkkkiejdaljaaJrRefJ
import Derived.Test.YtijkkkiejdaljaaJrFew
namespace Go.Proofs.Ytijkkkiejdaljaa
open Go.RowKit Go.Maps

/-- All of them lie in memory that was laid since w0, apart. -/
structure LM (w0 w : World) (b jb rb : Nat) (J : Jn) (D : Dv) (F G : Nat → Prop) (M : List Bytes) (sz fi sq : Nat) : Prop where
  jm : JM w0 w b jb J D F
  rat : RAt w rb G M sz fi sq
  go : ∀ q, G q → w0.heap.size ≤ q
  ro : w0.heap.size ≤ rb
  rF : ¬ F rb
  GF : ∀ q, G q → ¬ F q
  jr : rb ≠ jb
  jG : ¬ G jb

section
variable {w0 w w' : World} {b jb rb n : Nat} {J J' : Jn} {D D' : Dv} {F G G' : Nat → Prop} {L M M' : List Bytes} {sz fi sq sz' fi' sq' : Nat}

theorem LM.later (h : LM w0 w b jb rb J D F G M sz fi sq) (hb : Below w.heap.size w w') : LM w0 w' b jb rb J D F G M sz fi sq :=
  ⟨h.jm.later hb, h.rat.below hb, h.go, h.ro, h.rF, h.GF, h.jr, h.jG⟩
/-- The device or the head is turned. -/
theorem LM.jstep (h : LM w0 w b jb rb J D F G M sz fi sq) (hd : Dev w' b D' (Grow F w w')) (hj : JAt w' jb b J') (ho : Only (fun q => F q ∨ q = jb) w w') : LM w0 w' b jb rb J' D' (Grow F w w') G M sz fi sq where
  jm := h.jm.step hd hj ho
  rat := h.rat.only ho (fun e => e.elim h.rF h.jr) fun q hq e => e.elim (h.GF q hq) fun e => h.jG (e ▸ hq)
  go := h.go
  ro := h.ro
  rF e := e.elim h.rF fun e => by have := h.rat.lt; omega
  GF q hq e := e.elim (h.GF q hq) fun e => by have := h.rat.Gl q hq; omega
  jr := h.jr
  jG := h.jG
/-- The device alone is turned. -/
theorem LM.dstep (h : LM w0 w b jb rb J D F G M sz fi sq) (hd : Dev w' b D' (Grow F w w')) (ho : Only F w w') : LM w0 w' b jb rb J D' (Grow F w w') G M sz fi sq :=
  h.jstep hd (h.jm.head.only ho h.jm.jF) (ho.mono fun _ _ hq => .inl hq)
/-- The head alone is turned. -/
theorem LM.hstep (h : LM w0 w b jb rb J D F G M sz fi sq) (hj : JAt w' jb b J') (ho : Only (· = jb) w w') : LM w0 w' b jb rb J' D F G M sz fi sq where
  jm := {
    dev := h.jm.dev.other ho fun _ hq e => h.jm.jF (e ▸ hq)
    head := hj
    fo := h.jm.fo
    jo := h.jm.jo
    jF := h.jm.jF
    under := h.jm.under.trans (ho.below h.jm.under.size fun _ e => e ▸ h.jm.jo) }
  rat := h.rat.only ho h.jr fun _ hq e => h.jG (e ▸ hq)
  go := h.go
  ro := h.ro
  rF := h.rF
  GF := h.GF
  jr := h.jr
  jG := h.jG
/-- The document's journal is turned. -/
theorem LM.rstep (h : LM w0 w b jb rb J D F G M sz fi sq) (hr : RAt w' rb G' M' sz' fi' sq') (ho : Only (fun q => G q ∨ q = rb) w w') (hG : ∀ q, G' q → G q ∨ w.heap.size ≤ q) : LM w0 w' b jb rb J D F G' M' sz' fi' sq' where
  jm := h.jm.other ho fun q hq => hq.elim (fun hq => ⟨h.go q hq, h.GF q hq, fun e => h.jG (e ▸ hq)⟩) fun e => by subst e; exact ⟨h.ro, h.rF, h.jr⟩
  rat := hr
  go q hq := (hG q hq).elim (h.go q) fun hq => by have := h.jm.under.size; omega
  ro := h.ro
  rF := h.rF
  GF q hq hf := (hG q hq).elim (fun hq => h.GF q hq hf) fun hq => by have := h.jm.dev.fl q hf; omega
  jr := h.jr
  jG hj := (hG jb hj).elim h.jG fun hq => by have := h.jm.head.lt; omega
/-- Another journal is opened. -/
theorem LM.newj (h : LM w0 w b jb rb J D F G M sz fi sq) (hj : JAt w' w.heap.size b J') (hb : Below w.heap.size w w') : LM w0 w' b w.heap.size rb J' D F G M sz fi sq where
  jm := JM.open h.jm.dev h.jm.fo h.jm.under hj hb
  rat := h.rat.below hb
  go := h.go
  ro := h.ro
  rF := h.rF
  GF := h.GF
  jr := by have := h.rat.lt; omega
  jG hg := by have := h.rat.Gl _ hg; omega
/-- A block of one's own is turned. -/
theorem LM.own (h : LM w0 w b jb rb J D F G M sz fi sq) {S : Nat → Prop} (ho : Only S w w') (hS : ∀ q, S q → w0.heap.size ≤ q ∧ ¬ F q ∧ ¬ G q ∧ q ≠ rb ∧ q ≠ jb) : LM w0 w' b jb rb J D F G M sz fi sq where
  jm := h.jm.other ho fun q hq => ⟨(hS q hq).1, (hS q hq).2.1, (hS q hq).2.2.2.2⟩
  rat := h.rat.only ho (fun e => (hS rb e).2.2.2.1 rfl) fun q hq e => (hS q e).2.2.1 hq
  go := h.go
  ro := h.ro
  rF := h.rF
  GF := h.GF
  jr := h.jr
  jG := h.jG

/-- What an Append answers and leaves. -/
inductive App (w0 w : World) (b jb rb n : Nat) (J : Jn) (D : Dv) (F G : Nat → Prop) (L : List Bytes) (l : Bytes) (M : List Bytes) (sz fi sq : Nat) (w' : World) : Int → Prop
  | full : J.size < takenBy L + nBlocks l.length → LM w0 w' b jb rb J D F G M sz fi sq → Below w.heap.size w w' → App w0 w b jb rb n J D F G L l M sz fi sq w' 7
  | ok (J' : Jn) (D' : Dv) : takenBy L + nBlocks l.length ≤ J.size → LM w0 w' b jb rb J' D' (Grow F w w') G M sz fi sq → PS J' D' (L ++ [l]) (n + 20) → SameJ J J' → (D.left < 0 → D'.left < 0) → Only (fun q => F q ∨ q = jb) w w' →
      App w0 w b jb rb n J D F G L l M sz fi sq w' 0
  | lost (D' : Dv) : takenBy L + nBlocks l.length ≤ J.size → ¬ D.left < 0 → LM w0 w' b jb rb J.dies D' (Grow F w w') G M sz fi sq → Lost J D' L l (n + 20) → Only (fun q => F q ∨ q = jb) w w' →
      App w0 w b jb rb n J D F G L l M sz fi sq w' 8

theorem PS.more {m : Nat} (h : PS J D L n) (hm : n ≤ m) : PS J D L m := { h with upto := h.upto.more hm }

theorem lm_append (h : LM w0 w b jb rb J D F G M sz fi sq) (p : PS J D L n) {v : Value} {l : Bytes} (hv : Bs w v l) (hoff : ∀ q, v.ownBlock = some q → ¬ F q) (hl : l.length ≤ 4000) (hn : n ≤ 1000000) (hs : J.seq + J.held + 1 < 18446744073709551616) :
    Calls Try.prog 11 #[ptr jb, v] w fun e w' => ∃ c, e = .returned (err c) ∧ App w0 w b jb rb n J D F G L l M sz fi sq w' c := by
  have hnp : nPieces l.length ≤ 9 := by unfold nPieces; omega
  by_cases hr : J.size < takenBy L + nBlocks l.length
  · refine (jm_full h.jm p hv hr).mono ?_
    rintro e w' ⟨rfl, _, hb⟩
    exact ⟨7, rfl, .full hr (h.later hb) hb⟩
  · have hr' : takenBy L + nBlocks l.length ≤ J.size := by omega
    refine (append_go h.jm.head p.fit h.jm.dev h.jm.jF p.upto (by omega) p.live (by rw [p.ahead]; exact hr') p.holds.fits p.on hs hv hoff).mono ?_
    rintro e w' ⟨rfl, hd, hj, ho⟩
    obtain ⟨w1, _, _⟩ := went_writeD (J := J) p.on p.holds.fits p.holds.atl (l := l) (by rw [p.ahead]; exact hr')
    refine ⟨_, rfl, ?_⟩
    by_cases hc : (writeD J D l).2.2 = 0
    · have hA : appJ J D l = J.more (writeD J D l).2.1 := by unfold appJ; rw [if_pos hc]
      have hp := p.append (by omega) hr' hs hc
      rw [hc]
      exact .ok _ _ hr' (h.jstep hd hj ho) (hp.more (by omega)) (by rw [hA]; exact ⟨rfl, rfl, rfl, rfl⟩) (fun hf => (w1.free hf).2) ho
    · obtain ⟨h8, hf, hA, hlost⟩ := p.lost hr' hc
      rw [hA] at hj
      rw [h8]
      exact .lost _ hr' hf (h.jstep hd hj ho) { hlost with upto := hlost.upto.more (by omega) } ho

theorem lm_forget (h : LM w0 w b jb rb J D F G M sz fi sq) (p : PS J D L n) :
    Calls Try.prog 13 #[ptr jb] w fun e w' => e = .returned (err 0) ∧ LM w0 w' b jb rb J.gone D F G M sz fi sq ∧ PS J.gone D [] n := by
  refine (forget_ok h.jm.head p.fit p.live).mono ?_
  rintro e w' ⟨rfl, hj, ho⟩
  exact ⟨rfl, h.hstep hj ho, p.forget⟩

/-- The two agree. -/
structure Agree (J : Jn) (D : Dv) (L : List Bytes) (n : Nat) (sz fi sq : Nat) : Prop where
  ps : PS J D L n
  esz : J.size = sz
  efi : J.at_ = fi
  esq : J.seq = sq

theorem lm_refappend (h : LM w0 w b jb rb J D F G M sz fi sq) (hM : ∀ l ∈ M, l.length ≤ 1000000) (ht : takenBy M ≤ sz) (hs : sz ≤ 4096) {v : Value} {l : Bytes} (hv : Bs w v l) (hl : l.length ≤ 1000000) :
    Calls Try.prog 12 #[ptr rb, v] w fun e w' =>
      (sz < takenBy M + nBlocks l.length ∧ e = .returned (err 7) ∧ LM w0 w' b jb rb J D F G M sz fi sq ∧ Below w.heap.size w w') ∨
      (takenBy M + nBlocks l.length ≤ sz ∧ e = .returned (err 0) ∧ ∃ G', LM w0 w' b jb rb J D F G' (M ++ [l]) sz fi sq ∧ Only (fun q => G q ∨ q = rb) w w') := by
  by_cases hr : sz < takenBy M + nBlocks l.length
  · refine (refAppend_full h.rat hM ht hs hv hl hr).mono ?_
    rintro e w' ⟨rfl, rfl⟩
    exact .inl ⟨hr, rfl, h, Below.refl _ _⟩
  · have hr' : takenBy M + nBlocks l.length ≤ sz := by omega
    refine (refAppend_ok h.rat hM ht hs hv hl hr').mono ?_
    rintro e w' ⟨rfl, hrat, ho⟩
    exact .inr ⟨hr', rfl, _, h.rstep hrat ho fun q hq => hq.imp id fun hq => hq.1, ho⟩

theorem lm_refforget (h : LM w0 w b jb rb J D F G M sz fi sq) (hM : ∀ l ∈ M, l.length ≤ 1000000) (ht : takenBy M ≤ sz) (hs : sz ≤ 4096) (h2 : 2 ≤ sz) (hf : fi < sz) (hq : sq + M.length < 18446744073709551616) :
    Calls Try.prog 14 #[ptr rb] w fun e w' => e = .returned (.tuple #[]) ∧ LM w0 w' b jb rb J D F G [] sz (ringAt fi sz (takenBy M)) (sq + M.length) := by
  refine (refForget_any h.rat hM ht hs h2 hf hq).mono ?_
  rintro e w' ⟨rfl, hrat, ho⟩
  exact ⟨rfl, h.rstep hrat (ho.mono fun q _ e => .inr e) fun q hq => .inl hq⟩

set_option maxHeartbeats 1000000 in
theorem alike_any (h : LM w0 w b jb rb J D F G L J.size J.at_ J.seq) (p : PS J D L n) :
    Calls Try.prog 19 #[ptr jb, ptr rb] w fun e w' => e = .returned (.bool true) ∧ LM w0 w' b jb rb J D F G L J.size J.at_ J.seq ∧ Below w.heap.size w w' := by
  have hm := jm_mark h.jm p
  have hL := p.short
  have ht : takenBy L ≤ J.size := p.holds.room
  have hfew := p.fit.few
  have hq : J.seq + L.length < 18446744073709551616 := by have := p.fit.sql; have := p.held; omega
  have H := Lib.hid (And.intro h (And.intro p (And.intro hm (And.intro hL (And.intro ht (And.intro hfew hq))))))
  clear h p hm hL ht hfew hq
  go_enter Try.func19, Try.ntmps19
  go_wp2_with fail
  refine H.out.2.2.1.mono ?_
  rintro e w1 ⟨rfl, _, b1⟩
  have h1 := H.out.1.later b1
  have H1 := Lib.hid (And.intro h1 b1)
  clear h1 b1
  go_wp2_with fail
  refine (refMark_any H1.out.1.rat H.out.2.2.2.1 H.out.2.2.2.2.1 H.out.2.2.2.2.2.1 H.out.2.1.holds.two H.out.2.1.holds.atl H.out.2.2.2.2.2.2).mono ?_
  rintro e w2 ⟨rfl, m, rfl⟩
  have b2 : Below w.heap.size w (w1.drewN m) := below_drewN H1.out.2 m
  have h2 := H.out.1.later b2
  have H2 := Lib.hid (And.intro h2 b2)
  clear h2 b2
  generalize w1.drewN m = w2 at *
  go_wp2_with fail
  refine (jm_free H2.out.1.jm H.out.2.1).mono ?_
  rintro e w3 ⟨rfl, _, b3⟩
  have b3' := H2.out.2.trans (b3.mono H2.out.2.size)
  have h3 := H.out.1.later b3'
  have H3 := Lib.hid (And.intro h3 b3')
  clear b3 b3' h3
  go_wp2_with fail
  refine (refFree_any H3.out.1.rat H.out.2.2.2.1 H.out.2.2.2.2.1 H.out.2.2.2.2.2.1).mono ?_
  rintro e w4 ⟨rfl, rfl⟩
  generalize (J.size : Int) - ((takenBy L : Nat) : Int) = fr at *
  generalize ((ringAt J.at_ J.size (takenBy L) : Nat) : Int) = mk at *
  generalize (J.seq : Int) + (L.length : Int) = sq at *
  go_wp2
  go_ret
  exact ⟨rfl, H3.out.1, H3.out.2⟩
end
end Go.Proofs.Ytijkkkiejdaljaa
