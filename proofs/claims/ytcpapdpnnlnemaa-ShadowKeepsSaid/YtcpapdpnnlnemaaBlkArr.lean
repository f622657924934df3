/- An array of bytes in a block of the call's own: what its slices read as, a cell of it written, bytes copied into it; conditions: the sizes that each law names. -/
import Derived.Test.YtcpapdpnnlnemaaBy
import Derived.Laws.CopyOwn
import Derived.StillTailTactics
namespace Go.Proofs.Ytcpapdpnnlnemaa
open Go.RowKit

/-- The block is a row of these bytes. -/
def Arr (w : World) (g : Nat) (t : TypeId) (l : List UInt8) : Prop := w.heap[g]? = some (.cells (bvs l).toArray t (0, 0))

theorem Arr.lt {w : World} {g : Nat} {t : TypeId} {l : List UInt8} (h : Arr w g t l) : g < w.heap.size := (Array.getElem?_eq_some_iff.1 h).1

theorem Arr.below {w w' : World} {g : Nat} {t : TypeId} {l : List UInt8} {B : Nat} (h : Arr w g t l) (hb : Below B w w') (hg : g < B) : Arr w' g t l := by
  unfold Arr at *
  rw [hb.block g hg]; exact h

theorem Arr.drewN {w : World} {g : Nat} {t : TypeId} {l : List UInt8} (h : Arr w g t l) (n : Nat) : Arr (w.drewN n) g t l := h

theorem Arr.cell {w : World} {g : Nat} {t : TypeId} {l : List UInt8} (h : Arr w g t l) (i : Nat) (hi : i < l.length) : w.cell? ⟨g, i, none⟩ = some (bv l[i]) ∧ w.frozen? ⟨g, i, none⟩ = false := by
  unfold Arr at h
  constructor
  · simp [World.cell?, h, bvs, hi]
  · simp [World.frozen?, h]

theorem Arr.bs {w : World} {g : Nat} {t : TypeId} {l : List UInt8} (h : Arr w g t l) (o n cap : Nat) (h1 : o + n ≤ l.length) (h2 : n ≤ cap) (h3 : cap ≤ maxLen) :
    Bs w (.slice (some ⟨g, o, none⟩) n cap) ((l.drop o).take n) := by
  have hlen : ((l.drop o).take n).length = n := by simp; omega
  refine ⟨_, cap, by rw [hlen], by omega, h3, (fun h => by cases h), fun ad had i u hu => ?_⟩
  cases had
  rw [Addr.add_lit]
  have hi := (List.getElem?_eq_some_iff.1 hu).1
  rw [bvs_length, hlen] at hi
  rw [(h.cell (o + i) (by omega)).1, ← hu]
  simp only [bvs, List.getElem?_map, List.getElem?_take, List.getElem?_drop]
  rw [if_pos hi, List.getElem?_eq_getElem (by omega)]
  rfl

theorem Arr.ow {w : World} {g : Nat} {t : TypeId} {l : List UInt8} {base : Nat} (h : Arr w g t l) (hb : base ≤ g) (hm : l.length ≤ maxLen) : Ow w base t (.slice (some ⟨g, 0, none⟩) l.length l.length) l :=
  ⟨by simp [bvs], .inr ⟨g, l.length, (bvs l).toArray, rfl, hb, h, Nat.le_refl _, hm, by simp [bvs], by simp [bvs, List.take_of_length_le]⟩⟩

theorem Arr.set {w : World} {g : Nat} {t : TypeId} {l : List UInt8} (h : Arr w g t l) (i : Nat) (x : UInt8) : Arr (w.setCell ⟨g, i, none⟩ (bv x)) g t (l.set i x) := by
  unfold Arr at *
  rw [Lib.heap_setCell_same h]
  congr 2
  apply Array.ext'
  simp [bvs, List.map_set]

theorem splice_bvs (l : List UInt8) (o : Nat) (m : List UInt8) : splice (bvs l) o (bvs m) = bvs (splice l o m) := by
  simp [splice, bvs]

theorem Arr.spliced {w : World} {g : Nat} {t : TypeId} {l m : List UInt8} {o : Nat} (h : Hid (w.heap[g]? = some (.cells (splice (bvs l) o (bvs m)).toArray t (0, 0)))) : Arr w g t (splice l o m) := by
  have := h.out
  rw [splice_bvs] at this
  exact this

theorem Arr.new (w : World) (t : TypeId) (l : List UInt8) : Arr (w.alloc (.cells (bvs l).toArray t)) w.heap.size t l := heap_alloc_new w _

theorem ByteTy.one {P : Program} {t e : TypeId} (T : ByteTy P t e) : (P.info? e).map (·.size) = some 1 := by
  obtain ⟨i, hi, _, hs, _⟩ := T.parts
  rw [hi]; simp [hs]

/-- copy(an own array from o on, bytes), where they fit. -/
theorem wpList_copy_bs {P : Program} {t e : TypeId} (T : ByteTy P t e) {w : World} {ops : Array Oper} {rest : List Oper} {o : Oper} {a : Act} {Q : Exit → Act → World → Prop} (hgd : o.guard = none) (d s : Operand)
    (ho : o.op = .call { callee := .builtin .copy, args := #[d, s], argTypes := #[t, t] }) (g off dLen dCap : Nat) (ty : TypeId) (l m : List UInt8) (sv : Value)
    (hd : a.eval d = .slice (some ⟨g, off, none⟩) dLen dCap) (hs : a.eval s = sv) (hm : Bs w sv m) (hg : Arr w g ty l) (hfit : m.length ≤ dLen) (hin : off + m.length ≤ l.length)
    (B : Nat) (w0 : World) (hb : Below B w0 w) (hBg : B ≤ g)
    (h : ∀ w', Arr w' g ty (splice l off m) → Below B w0 w' → wpList P ops Q rest (a.put o.dst (goInt m.length)) w') :
    wpList P ops Q (o :: rest) a w := by
  obtain ⟨sa, cap, rfl, h1, h2, h3, h4⟩ := hm
  have := wpList_copy_splice (P := P) (w := w) (ops := ops) (rest := rest) (o := o) (a := a) (Q := Q) hgd d s t t ho e T.slice T.one (some ⟨g, off, none⟩) sa dLen dCap m.length cap hd hs g off (bvs l) ty hg (bvs m)
    (by rw [bvs_length]; exact (Nat.min_eq_left hfit).symm)
    (fun hp => by
      refine ⟨rfl, ?_⟩
      rw [bvs_length] at hp
      rcases sa with _ | ad
      · have := h3 rfl; omega
      · exact ⟨ad, rfl, h4 ad rfl⟩)
    (by rw [bvs_length, bvs_length]; exact hin) bvs_one B w0 hb hBg
  apply this
  intro w' hw' hb'
  rw [bvs_length]
  exact h w' (Arr.spliced hw') hb'

/-- The same as a step of a region that draws its order. -/
theorem step_copy_bs {P : Program} {t e : TypeId} (T : ByteTy P t e) {w : World} {ops : Array Oper} {o : Oper} {a : Act} {K : Act → World → Prop} {Q : Exit → Act → World → Prop} {E : Prop} (hgd : o.guard = none) (d s : Operand)
    (ho : o.op = .call { callee := .builtin .copy, args := #[d, s], argTypes := #[t, t] }) (g off dLen dCap : Nat) (ty : TypeId) (l m : List UInt8) (sv : Value)
    (hd : a.eval d = .slice (some ⟨g, off, none⟩) dLen dCap) (hs : a.eval s = sv) (hm : Bs w sv m) (hg : Arr w g ty l) (hfit : m.length ≤ dLen) (hin : off + m.length ≤ l.length)
    (B : Nat) (w0 : World) (hb : Below B w0 w) (hBg : B ≤ g)
    (h : ∀ w', Arr w' g ty (splice l off m) → Below B w0 w' → K (a.put o.dst (goInt m.length)) w') :
    if Region.wanted o (yielded ops a.tmps) = true then Oper.wp P o a w K Q else E := by
  obtain ⟨sa, cap, rfl, h1, h2, h3, h4⟩ := hm
  have := step_copy_splice (P := P) (w := w) (ops := ops) (o := o) (a := a) (K := K) (Q := Q) (E := E) hgd d s t t ho e T.slice T.one (some ⟨g, off, none⟩) sa dLen dCap m.length cap hd hs g off (bvs l) ty hg (bvs m)
    (by rw [bvs_length]; exact (Nat.min_eq_left hfit).symm)
    (fun hp => by
      refine ⟨rfl, ?_⟩
      rw [bvs_length] at hp
      rcases sa with _ | ad
      · have := h3 rfl; omega
      · exact ⟨ad, rfl, h4 ad rfl⟩)
    (by rw [bvs_length, bvs_length]; exact hin) bvs_one B w0 hb hBg
  apply this
  intro w' hw' hb'
  rw [bvs_length]
  exact h w' (Arr.spliced hw') hb'
end Go.Proofs.Ytcpapdpnnlnemaa
