/- Nets that a statement lets grow in variables of its own, several at once, beside a net and rows of numbers that stand; no condition. -/
import Derived.Test.YtmdjgkclbjbdiaaNtLot
namespace Go.Proofs.Ytmdjgkclbjbdiaa
open Go.RowKit

/-- Beside what stands (NQ): in each of these blocks a net of N nodes whose edges are an own row. -/
structure NG (w : World) (n : Int) (v : Value) (es : List Ed) (fls : List (Value × List Int)) (d : Nat) (rows : List (Nat × Value × List Ed)) (W : World) : Prop where
  q : NQ w w.heap.size n v es fls W
  cel : ∀ r ∈ rows, Cel W r.1 [.int .i64 n, r.2.1] 24 ∧ w.heap.size < r.1 ∧ r.1 ≤ d
  dist : rows.Pairwise fun a b => a.1 ≠ b.1
  lot : Lot kdEd 39 d (rows.map fun r => (r.2.1, r.2.2)) W
  hd : d < W.heap.size
  src : es ≠ [] → ∀ q, v.ownBlock = some q → q < w.heap.size
  srf : ∀ p ∈ fls, p.2 ≠ [] → ∀ q, p.1.ownBlock = some q → q < w.heap.size
section
variable {w W W' : World} {n : Int} {v : Value} {es : List Ed} {fls : List (Value × List Int)} {d : Nat} {rows rows' : List (Nat × Value × List Ed)}
theorem NG.go (h : NG w n v es fls d rows W) (hb : Below W.heap.size W W') : NG w n v es fls d rows W' :=
  ⟨h.q.go hb, fun r hr => ⟨(h.cel r hr).1.below hb (h.cel r hr).1.lt, (h.cel r hr).2⟩, h.dist, h.lot.below okE hb, Nat.lt_of_lt_of_le h.hd hb.size, h.src, h.srf⟩
theorem NG.perm (h : NG w n v es fls d rows W) (hp : rows.Perm rows') : NG w n v es fls d rows' W :=
  ⟨h.q, fun r hr => h.cel r (hp.mem_iff.2 hr), (hp.pairwise_iff fun {_ _} hh e => hh e.symm).1 h.dist, h.lot.perm (hp.map _), h.hd, h.src, h.srf⟩
theorem fs_apart {w w' : World} {T : Nat → Prop} {v : Value} {l : List Int} (h : Fs w v l) (ho : Only T w w') (hv : l ≠ [] → ∀ q, v.ownBlock = some q → ¬ T q) : Fs w' v l := by
  obtain ⟨ts, h1, h2, _, _⟩ := h
  exact ⟨ts, h1, h2.only ho (fun hn q hq => hv (List.length_pos_iff.1 hn) q hq), fun _ _ => trivial, fun _ _ _ h => h⟩
theorem es_apart2 {w w' : World} {T : Nat → Prop} {v : Value} {es : List Ed} (h : Es w v es) (ho : Only T w w') (hv : es ≠ [] → ∀ q, v.ownBlock = some q → ¬ T q) : Es w' v es := by
  obtain ⟨ts, h1, h2, _, _⟩ := h
  exact ⟨ts, h1, h2.only ho (fun hn q hq => hv (List.length_pos_iff.1 hn) q hq), fun _ _ => trivial, fun _ _ _ h => h⟩
theorem NQ.apart {c : Nat} {T : Nat → Prop} (h : NQ w c n v es fls W) (ho : Only T W W') (hT : ∀ q, T q → w.heap.size ≤ q) (hc : ¬ T c) (hv : es ≠ [] → ∀ q, v.ownBlock = some q → ¬ T q) (hf : ∀ p ∈ fls, p.2 ≠ [] → ∀ q, p.1.ownBlock = some q → ¬ T q) : NQ w c n v es fls W' :=
  ⟨h.under.trans (ho.below h.under.size hT), h.net.only ho hc, es_apart2 h.es ho hv, fun p hp => fs_apart (h.fl p hp) ho (hf p hp)⟩
/-- One edge more in the first one: what append leaves, and the net behind the store. -/
theorem NG.more {c : Nat} {ev : Value} {l : List Ed} (h : NG w n v es fls d ((c, ev, l) :: rows) W) (x : Ed) (hl : l.length ≤ 100000) : ∃ v' w', (Builtin.append_ #[22, 22] 22 #[ev, .slice (some ⟨W.heap.size, 0, none⟩) 1 1]).run Try.prog (W.alloc (.cells #[.int .i64 x.fr, .int .i64 x.to, .int .i64 x.cap, .int .i64 x.cost] 39)) = .ok v' w' ∧
    (∃ a m k, v' = .slice a m k) ∧ NQ w w.heap.size n v es fls w' ∧ Cel w' c [.int .i64 n, ev] 24 ∧ NG w n v es fls d ((c, v', l ++ [x]) :: rows) (w'.setCell ⟨c, 1, none⟩ v') ∧ Only (fun q => ev.ownBlock = some q) W w' ∧ Only (fun q => ev.ownBlock = some q ∨ q = c) W (w'.setCell ⟨c, 1, none⟩ v') ∧ (∀ q, v'.ownBlock = some q → ev.ownBlock = some q ∨ q = W.heap.size + 1) := by
  obtain ⟨v', w', hr, hsh, hlot, ho, hvl⟩ := Lot.more edge_rows okE (ev := ev) (l := l) (rs := rows.map fun r => (r.2.1, r.2.2)) (by simpa using h.lot) h.hd x #[.int .i64 x.fr, .int .i64 x.to, .int .i64 x.cap, .int .i64 x.cost] rfl hl
  have hre := h.lot.1 (ev, l) (by simp)
  have hin : ∀ q, ev.ownBlock = some q → d < q := fun q hq => hre.inS hq
  obtain ⟨hc, hcw, hcd⟩ := h.cel (c, ev, l) (by simp)
  have hq' : NQ w w.heap.size n v es fls w' := h.q.apart ho (fun q hq => by have := hin q hq; omega) (fun e => by have := hin _ e; omega) (fun hn q hq e => by have := hin q e; have := h.src hn q hq; omega) (fun p hp hn q hq e => by have := hin q e; have := h.srf p hp hn q hq; omega)
  have hc' : Cel w' c [.int .i64 n, ev] 24 := hc.only ho fun e => by have := hin _ e; simp only at hcd; omega
  have ho2 : Only (fun q => q = c) w' (w'.setCell ⟨c, 1, none⟩ v') := (Only.refl (fun q => q = c) w').setCell (p := ⟨c, 1, none⟩) (.inl rfl) _
  simp only at hcw hcd
  refine ⟨v', w', hr, hsh, hq', hc', ⟨hq'.apart ho2 (fun q hq => by omega) (by omega) (fun hn q hq e => by have := h.src hn q hq; omega) (fun p hp hn q hq e => by have := h.srf p hp hn q hq; omega), fun r hr => ?_, ?_, ?_, Nat.lt_of_lt_of_le h.hd (Nat.le_trans ho.size ho2.size), h.src, h.srf⟩, ho, (ho.mono fun _ _ hq => .inl hq).setCell (p := ⟨c, 1, none⟩) (.inl (.inr rfl)) _, hvl⟩
  · rcases List.mem_cons.1 hr with rfl | hr
    · exact ⟨hc'.set 1 v', hcw, hcd⟩
    · have h1 := h.cel r (List.mem_cons_of_mem _ hr)
      have hne : r.1 ≠ c := fun e => (List.pairwise_cons.1 h.dist).1 r hr e.symm
      exact ⟨(h1.1.only ho fun e => by have := hin _ e; omega).only ho2 hne, h1.2⟩
  · exact List.pairwise_cons.2 ⟨(List.pairwise_cons.1 h.dist).1, (List.pairwise_cons.1 h.dist).2⟩
  · have hk : Lot kdEd 39 d ((v', l ++ [x]) :: rows.map fun r => (r.2.1, r.2.2)) w' := hlot
    have := hk.keep okE (W' := w'.setCell ⟨c, 1, none⟩ v') fun p hp g hg => Below.heap_setCell _ _ _ _ (by have := (hk.1 p hp).inS hg; simp only; omega)
    simpa using this
/-- A store into a block that is none of theirs. -/
theorem NG.apart {T : Nat → Prop} (h : NG w n v es fls d rows W) (ho : Only T W W') (hT : ∀ q, T q → w.heap.size < q) (hc : ∀ r ∈ rows, ¬ T r.1) (hown : ∀ r ∈ rows, ∀ q, r.2.1.ownBlock = some q → ¬ T q) : NG w n v es fls d rows W' :=
  ⟨h.q.apart ho (fun q hq => Nat.le_of_lt (hT q hq)) (fun e => by have := hT _ e; omega) (fun hn q hq e => by have := hT q e; have := h.src hn q hq; omega) (fun p hp hn q hq e => by have := hT q e; have := h.srf p hp hn q hq; omega),
    fun r hr => ⟨(h.cel r hr).1.only ho (hc r hr), (h.cel r hr).2⟩, h.dist, h.lot.keep okE (fun p hp g hg => by
      have hp0 := hp
      obtain ⟨r, hr, rfl⟩ := List.mem_map.1 hp
      exact ho.block g ((h.lot.1 _ hp0).own hg) (hown r hr g hg)), Nat.lt_of_lt_of_le h.hd ho.size, h.src, h.srf⟩
/-- Three of them, new. -/
theorem NG.three (h : NQ w w.heap.size n v es fls W) (hs : es ≠ [] → ∀ q, v.ownBlock = some q → q < w.heap.size) (hf : ∀ p ∈ fls, p.2 ≠ [] → ∀ q, p.1.ownBlock = some q → q < w.heap.size) :
    NG w n v es fls (W.heap.size + 1 + 1) [(W.heap.size, .slice none 0 0, []), (W.heap.size + 1, .slice none 0 0, []), (W.heap.size + 1 + 1, .slice none 0 0, [])] (((W.alloc (.cells #[.int .i64 n, .slice none 0 0] 24)).alloc (.cells #[.int .i64 n, .slice none 0 0] 24)).alloc (.cells #[.int .i64 n, .slice none 0 0] 24)) := by
  have hw := h.net.lt
  have hb : Below W.heap.size W (((W.alloc (.cells #[.int .i64 n, .slice none 0 0] 24)).alloc (.cells #[.int .i64 n, .slice none 0 0] 24)).alloc (.cells #[.int .i64 n, .slice none 0 0] 24)) := (((Below.refl _ _).alloc (Nat.le_refl _) _).alloc (by simp) _).alloc (by simp; omega) _
  have c1 := ((Cel.new W #[.int .i64 n, .slice none 0 0] 24).alloc (.cells #[.int .i64 n, .slice none 0 0] 24)).alloc (.cells #[.int .i64 n, .slice none 0 0] 24)
  have c2 := (Cel.new (W.alloc (.cells #[.int .i64 n, .slice none 0 0] 24)) #[.int .i64 n, .slice none 0 0] 24).alloc (.cells #[.int .i64 n, .slice none 0 0] 24)
  have c3 := Cel.new ((W.alloc (.cells #[.int .i64 n, .slice none 0 0] 24)).alloc (.cells #[.int .i64 n, .slice none 0 0] 24)) #[.int .i64 n, .slice none 0 0] 24
  simp only [World.size_alloc] at c2 c3
  refine ⟨h.go hb, fun r hr => ?_, ?_, Lot.nil _ 3, by simp only [World.size_alloc]; omega, hs, hf⟩
  · simp only [List.mem_cons, List.not_mem_nil, or_false] at hr
    rcases hr with rfl | rfl | rfl
    · exact ⟨c1, hw, by simp only; omega⟩
    · exact ⟨c2, by simp only; omega, by simp only; omega⟩
    · exact ⟨c3, by simp only; omega, Nat.le_refl _⟩
  · simp
    omega
end
end Go.Proofs.Ytmdjgkclbjbdiaa
