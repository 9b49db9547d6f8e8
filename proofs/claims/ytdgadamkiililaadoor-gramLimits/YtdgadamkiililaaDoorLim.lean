/-
  The walk of GramLimits.
-/
import Derived.Test.YtdgadamkiililaaDoorBox
namespace Go.Proofs.YtdgadamkiililaaDoor
open Go.RowKit

def bS : ByteArray := ⟨#[115]⟩
/-- The token of a number. -/
def tkN (i : Nat) : Tk := ⟨strOfNums [84, 97 + (i : Int) / 10, 48 + (i : Int) % 10], 0, 0⟩
def ruN (k : Nat) : Ru := ⟨bS, List.replicate k bS, e0⟩
/-- The grammar of so many tokens and rules. -/
def limG (t r k : Nat) (e : Int) : Gm := ⟨(List.range t).map tkN, e0, e, List.replicate r (ruN k)⟩

theorem tkN_all : ((List.range 46).all fun i => nameOk (by8 (tkN i).n) && decide ((tkN i).n.size ≤ 100) && ((List.range i).all fun j => !(by8 (tkN j).n == by8 (tkN i).n))) = true := by kernel_rfl
theorem tkN_ok {i : Nat} (h : i < 46) : NameP (tkN i).n ∧ (tkN i).n.size ≤ 100 ∧ ∀ j, j < i → (tkN j).n ≠ (tkN i).n := by
  have := List.all_eq_true.1 tkN_all i (List.mem_range.2 h)
  rw [Bool.and_eq_true, Bool.and_eq_true, decide_eq_true_eq] at this
  refine ⟨this.1.1, this.1.2, fun j hj e => ?_⟩
  have h2 := List.all_eq_true.1 this.2 j (List.mem_range.2 hj)
  rw [e] at h2
  simp at h2

theorem range_map_at {α : Type} (f : Nat → α) (n i : Nat) (x : α) (h : ((List.range n).map f)[i]? = some x) : i < n ∧ x = f i := by
  rw [List.getElem?_map] at h
  obtain ⟨y, hy, rfl⟩ := Option.map_eq_some_iff.1 h
  obtain ⟨h1, h2⟩ := List.getElem?_eq_some_iff.1 hy
  rw [List.length_range] at h1
  rw [List.getElem_range] at h2
  subst h2
  exact ⟨h1, rfl⟩

theorem lev_zero (n : Nat) : levF ((List.range n).map tkN) = some zero9 := by
  induction n with
  | zero => rfl
  | succ n ih =>
    rw [List.range_succ, List.map_append, List.map_singleton, levF_snoc, ih]
    have h1 : LevP (tkN n) := .inl ⟨rfl, rfl⟩
    unfold levS
    simp only
    rw [if_pos ⟨h1, .inl rfl⟩]
    rfl

theorem noGap_zero : NoGap zero9 := fun k _ h2 h3 => by
  exfalso
  apply h3
  match k, h2 with
  | 0, _ => rfl
  | 1, _ => rfl
  | 2, _ => rfl
  | 3, _ => rfl
  | 4, _ => rfl
  | 5, _ => rfl
  | 6, _ => rfl
  | 7, _ => rfl
  | 8, _ => rfl

theorem bS_ok : NameP bS := by unfold NameP; kernel_rfl

theorem lim_may (t r k : Nat) (e : Int) (ht : t ≤ 45) : MayP (limG t r k e) ↔ t ≤ 40 ∧ r ≤ 100 ∧ (k ≤ 20 ∨ r = 0) ∧ 0 ≤ e ∧ e ≤ 9999 := by
  constructor
  · intro h
    have h1 := h.nt
    have h2 := h.nr
    simp only [limG, List.length_map, List.length_range, List.length_replicate] at h1 h2
    refine ⟨h1, h2, ?_, h.e0, h.e1⟩
    rcases Nat.eq_zero_or_pos r with h0 | h0
    · exact .inr h0
    · left
      have := (h.rl (ruN k) (by simp only [limG]; exact List.mem_replicate.2 ⟨by omega, rfl⟩)).2.1
      simpa [ruN] using this
  · rintro ⟨h1, h2, h3, h4, h5⟩
    refine ⟨by simp [limG]; exact h1, by simp [limG]; exact h2, h4, h5, .inl rfl, ⟨?_, zero9, lev_zero t, noGap_zero⟩, ?_⟩
    · intro i x hx
      obtain ⟨hi, rfl⟩ := range_map_at tkN t i x hx
      obtain ⟨a, -, b⟩ := tkN_ok (i := i) (by omega)
      refine ⟨a, fun j u hj hu => ?_⟩
      obtain ⟨-, rfl⟩ := range_map_at tkN t j u hu
      exact b j hj
    · intro x hx
      simp only [limG] at hx
      obtain ⟨hr, rfl⟩ := List.mem_replicate.1 hx
      refine ⟨bS_ok, ?_, .inl rfl, fun y hy => ?_⟩
      · simp only [ruN, List.length_replicate]
        omega
      · simp only [ruN] at hy
        obtain ⟨-, rfl⟩ := List.mem_replicate.1 hy
        exact bS_ok

theorem lim_small (t r k : Nat) (e : Int) (ht : t ≤ 45) (hr : r ≤ 105) (hk : k ≤ 25) : Small (limG t r k e) := by
  have hs : bS.size ≤ 100 := by decide
  have h0 : e0.size ≤ 100 := by decide
  refine ⟨by simp [limG]; omega, by simp [limG]; omega, h0, fun x hx => ?_, fun x hx => ?_⟩
  · simp only [limG] at hx
    rw [List.mem_map] at hx
    obtain ⟨i, hi, rfl⟩ := hx
    exact (tkN_ok (by have := List.mem_range.1 hi; omega)).2.1
  · simp only [limG] at hx
    obtain ⟨-, rfl⟩ := List.mem_replicate.1 hx
    refine ⟨hs, h0, by simp [ruN]; omega, fun y hy => ?_⟩
    simp only [ruN] at hy
    obtain ⟨-, rfl⟩ := List.mem_replicate.1 hy
    exact hs

/-- A grammar's text is not empty. -/
theorem text_ne {G : Gm} {T : ByteArray} (h : TextP G T) (hm : MayP G) : T ≠ ⟨#[]⟩ := fun e => by
  obtain ⟨l, hl, -⟩ := hm.tk.2
  have := h.1 hm l hl
  rw [e] at this
  have h2 : (tx (linesG G l)).length = 0 := by rw [← this]; rfl
  unfold linesG headLn at h2
  rw [tx_append, tx_append] at h2
  simp [tx, lineT] at h2

theorem own_mono {w : World} {base base' E k n : Nat} {v : Value} {cs : List Value} (h : w.ownsRow base E k v n cs) (hb : base' ≤ base) : w.ownsRow base' E k v n cs := by
  refine ⟨h.1, ?_⟩
  rcases h.2 with hn | ⟨g, cap, cur, rfl, hg, r⟩
  · exact .inl hn
  · exact .inr ⟨g, cap, cur, rfl, by omega, r⟩

/-- The inner loop's memory: the rule's box, its symbols. -/
structure RB (w wr : World) (l : List ByteArray) (xa : Option Addr) (m xc : Nat) : Prop where
  box : wr.heap[w.heap.size]? = some (.cells #[.string bS, .slice xa m xc, .string e0] 39 (0, 0))
  own : OwnS wr (w.heap.size + 1) (.slice xa m xc) l
  len : m = l.length
  bel : Below w.heap.size w wr

theorem RB.new (w : World) : RB w (w.alloc (.cells #[.string bS, .slice none 0 0, .string e0] 39)) [] none 0 0 :=
  ⟨heap_alloc_new _ _, World.ownsRow_nil _ _ _ _, rfl, below_alloc _ _⟩

theorem RB.add {w wr : World} {l : List ByteArray} {xa : Option Addr} {m xc : Nat} (h : RB w wr l xa m xc) (hl : l.length ≤ 1000) (s : ByteArray) :
    ∃ ao n c w', (Builtin.append_ #[37, 37] 37 #[.slice xa m xc, .slice (some ⟨wr.heap.size, 0, none⟩) 1 1]).run Tryd.prog (wr.alloc (.cells #[.string s] 9)) = .ok (.slice ao n c) w' ∧ w'.heap[w.heap.size]? = some (.cells #[.string bS, .slice xa m xc, .string e0] 39 (0, 0)) ∧ RB w (w'.setCell ⟨w.heap.size, 1, none⟩ (.slice ao n c)) (l ++ [s]) ao n c := by
  have hlt : w.heap.size < wr.heap.size := (Array.getElem?_eq_some_iff.1 h.box).1
  obtain ⟨ao, n, c, w', hr, hn, ho, hb⟩ := (h.own.below (below_alloc wr (.cells #[.string s] 9))).addRow (new_row wr [s] (by simp)) (by simp; omega) (by simp; omega) rfl
  have hbox : w'.heap[w.heap.size]? = some (.cells #[.string bS, .slice xa m xc, .string e0] 39 (0, 0)) := by
    rw [hb.block _ (by omega), Below.heap_alloc _ _ _ hlt]
    exact h.box
  refine ⟨ao, n, c, w', hr, hbox, ?_, ?_, hn, ?_⟩
  · rw [setCell_eq_setRow w' w.heap.size 1 _ 39 (0, 0) _ hbox]
    exact setRow_heap _ _ _ _ 39 _ hbox
  · refine ownsRow_of_block ho (fun i hi => Below.heap_setCell _ _ _ _ (fun e => ?_))
    simp only at e
    have := (World.ownsRow.lt ho i hi).1
    omega
  · have h1 : Below w.heap.size w w' := (below_step h.bel (below_alloc wr _)).trans (hb.mono (by omega))
    exact h1.setCell (p := ⟨w.heap.size, 1, none⟩) (Nat.le_refl _) _

end Go.Proofs.YtdgadamkiililaaDoor
