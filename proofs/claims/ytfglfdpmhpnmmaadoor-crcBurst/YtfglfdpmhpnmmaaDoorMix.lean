/-
  What a few bytes that are laid on by exclusive or do to a text, place by place.
-/
import Derived.Test.YtfglfdpmhpnmmaaDoorOwn
namespace Go.Proofs.YtfglfdpmhpnmmaaDoor
open Go.RowKit

/-- Of ds the first k of the bytes xx are laid on xb from place p on. -/
def Mix (xb xx : List Int) (p k : Nat) (ds : List Int) : Prop :=
  ds.length = xb.length ∧ (∀ x ∈ ds, 0 ≤ x ∧ x ≤ 255) ∧ ∀ j, (ds[j]?.getD 0).toNat = (xb[j]?.getD 0).toNat ^^^ (if p ≤ j ∧ j < p + k then (xx[j - p]?.getD 0).toNat else 0)

theorem Mix.start (xb xx : List Int) (p : Nat) (hb : ∀ x ∈ xb, 0 ≤ x ∧ x ≤ 255) : Mix xb xx p 0 xb := by
  refine ⟨rfl, hb, fun j => ?_⟩
  rw [if_neg (by omega), Nat.xor_zero]

theorem Mix.next {xb xx ds : List Int} {p k : Nat} (h : Mix xb xx p k ds) (hp : p + k < xb.length) (y : Nat) (hy : y = (ds[p + k]?.getD 0).toNat ^^^ (xx[k]?.getD 0).toNat) (hy8 : y < 256) : Mix xb xx p (k + 1) (ds.set (p + k) (y : Int)) := by
  refine ⟨by rw [List.length_set]; exact h.1, fun x hx => ?_, fun j => ?_⟩
  · rcases List.mem_or_eq_of_mem_set hx with hx | rfl
    · exact h.2.1 x hx
    · omega
  · by_cases hj : j = p + k
    · subst hj
      rw [List.getElem?_set_self (by rw [h.1]; exact hp), if_pos (by omega), Nat.add_sub_cancel_left]
      show ((y : Int)).toNat = _
      have h0 := h.2.2 (p + k)
      rw [if_neg (by omega), Nat.xor_zero] at h0
      rw [Int.toNat_natCast, hy, h0]
    · rw [List.getElem?_set_ne (by omega), h.2.2 j]
      by_cases hc : p ≤ j ∧ j < p + k
      · rw [if_pos hc, if_pos (by omega)]
      · rw [if_neg hc, if_neg (by omega)]

theorem Mix.differ {xb xx ds : List Int} {p : Nat} (h : Mix xb xx p xx.length ds) (hp : p + xx.length ≤ xb.length) :
    List.zipWith (· ^^^ ·) (nats xb) (nats ds) = List.replicate p 0 ++ nats xx ++ List.replicate (xb.length - (p + xx.length)) 0 := by
  have hl : (nats xb).length = xb.length := nats_length xb
  have hd : (nats ds).length = xb.length := by rw [nats_length, h.1]
  apply List.ext_getElem?
  intro j
  by_cases hj : j < xb.length
  · have e1 : (nats xb)[j]? = some (xb[j]?.getD 0).toNat := by rw [← nats_getD, List.getElem?_eq_getElem (by omega)]; rfl
    have e2 : (nats ds)[j]? = some (ds[j]?.getD 0).toNat := by rw [← nats_getD, List.getElem?_eq_getElem (by omega)]; rfl
    rw [List.getElem?_zipWith, e1, e2, h.2.2 j]
    simp only [Crc.xor_self_left]
    by_cases h1 : j < p
    · rw [if_neg (by omega), List.append_assoc, List.getElem?_append_left (by simpa using h1), List.getElem?_replicate, if_pos h1]
    · by_cases h2 : j < p + xx.length
      · rw [if_pos (by omega), List.append_assoc, List.getElem?_append_right (by simp; omega), List.length_replicate, List.getElem?_append_left (by rw [nats_length]; omega), ← nats_getD, List.getElem?_eq_getElem (by rw [nats_length]; omega)]
        rfl
      · rw [if_neg (by omega), List.getElem?_append_right (by simp [nats_length]; omega), List.getElem?_replicate, if_pos (by simp [nats_length]; omega)]
  · rw [List.getElem?_eq_none (by rw [List.length_zipWith]; omega), List.getElem?_eq_none (by simp [nats_length]; omega)]

/-- A text that was changed in up to four places behind one another has another sum. -/
theorem Mix.sums {xb xx ds : List Int} {p : Nat} (h : Mix xb xx p xx.length ds) (hp : p + xx.length ≤ xb.length) (h4 : xx.length ≤ 4) (hx : ∀ x ∈ xx, 0 ≤ x ∧ x ≤ 255) (hany : xx.any (· != 0) = true) :
    Crc.sum (nats xb) ≠ Crc.sum (nats ds) := by
  intro he
  have h0 := Crc.sum_burst (nats xb) (nats ds) p (nats xx) _ (by rw [nats_length, nats_length, h.1]) (nats_byte hx) (by rw [nats_length]; exact h4) (h.differ hp) he
  obtain ⟨x, hm, hne⟩ := List.any_eq_true.1 hany
  have := h0 x.toNat (List.mem_map.2 ⟨x, hm, rfl⟩)
  have := hx x hm
  rw [bne_iff_ne] at hne
  omega

theorem any_take {xx : List Int} {k : Nat} (hk : k < xx.length) : (xx.take (k + 1)).any (· != 0) = ((xx.take k).any (· != 0) || (xx[k]?.getD 0 != 0)) := by
  rw [List.take_add_one, List.any_append, List.getElem?_eq_getElem hk]
  simp

end Go.Proofs.YtfglfdpmhpnmmaaDoor
