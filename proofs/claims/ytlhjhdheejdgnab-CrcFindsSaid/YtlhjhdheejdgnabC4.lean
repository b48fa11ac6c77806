/- Turned bits are found: plain facts; no program is spoken of here. -/
import Derived.Test.YtlhjhdheejdgnabC0
namespace Go.Proofs.Ytlhjhdheejdgnab.Cr
open Go.RowKit

theorem push_low (x b : Nat) : push x b % 2 = if x / 32768 = b then 0 else 1 := by
  unfold push
  rw [xor_mod2]
  by_cases h : x / 32768 = b
  · rw [if_pos h, if_pos h, if_pos (by omega)]
  · rw [if_neg h, if_neg h, if_neg (by omega)]

theorem push_agree (x1 x2 b1 b2 j : Nat) (hj : j < 16) (h : push x1 b1 % 2 ^ (j + 1) = push x2 b2 % 2 ^ (j + 1)) :
    (x1 / 32768 = b1 ↔ x2 / 32768 = b2) ∧ x1 % 2 ^ j = x2 % 2 ^ j := by
  have h2 : push x1 b1 % 2 = push x2 b2 % 2 := by
    have hd : 2 ∣ 2 ^ (j + 1) := ⟨2 ^ j, by rw [Nat.pow_succ, Nat.mul_comm]⟩
    have e1 := Nat.mod_mod_of_dvd (push x1 b1) hd
    have e2 := Nat.mod_mod_of_dvd (push x2 b2) hd
    rw [← e1, ← e2, h]
  rw [push_low, push_low] at h2
  have hi : x1 / 32768 = b1 ↔ x2 / 32768 = b2 := by
    by_cases p : x1 / 32768 = b1 <;> by_cases q : x2 / 32768 = b2 <;> simp [p, q] at h2 ⊢
  refine ⟨hi, ?_⟩
  have hc : (if x1 / 32768 = b1 then 0 else 4129) = (if x2 / 32768 = b2 then 0 else 4129 : Nat) := by
    by_cases p : x1 / 32768 = b1
    · rw [if_pos p, if_pos (hi.1 p)]
    · rw [if_neg p, if_neg (fun q => p (hi.2 q))]
  unfold push at h
  rw [hc, Nat.xor_mod_two_pow, Nat.xor_mod_two_pow] at h
  generalize (if x2 / 32768 = b2 then 0 else 4129 : Nat) % 2 ^ (j + 1) = c at h
  have h3 : x1 * 2 % 65536 % 2 ^ (j + 1) = x2 * 2 % 65536 % 2 ^ (j + 1) := by
    have := congrArg (fun z => z ^^^ c) h
    simpa [Nat.xor_assoc] using this
  have hd : 2 ^ (j + 1) ∣ 65536 := by
    have : (65536 : Nat) = 2 ^ 16 := rfl
    rw [this]
    exact Nat.pow_dvd_pow 2 (by omega)
  rw [Nat.mod_mod_of_dvd _ hd, Nat.mod_mod_of_dvd _ hd, Nat.pow_succ, Nat.mul_mod_mul_right, Nat.mul_mod_mul_right] at h3
  omega

theorem feed_agree : ∀ (l1 l2 : List Nat) (x1 x2 j : Nat), l1.length = l2.length → l1.length ≤ j → j ≤ 16 → (∀ b ∈ l1, b < 2) → (∀ b ∈ l2, b < 2) → x1 < 65536 → x2 < 65536 →
    feed x1 l1 % 2 ^ j = feed x2 l2 % 2 ^ j → x1 % 2 ^ (j - l1.length) = x2 % 2 ^ (j - l1.length) ∧ (x1 = x2 → l1 = l2)
  | [], [], x1, x2, j, _, _, _, _, _, _, _, h => ⟨by simpa [feed] using h, fun _ => rfl⟩
  | b1 :: l1, b2 :: l2, x1, x2, j, hl, hlj, hj, hb1, hb2, h1, h2, h => by
    simp only [List.length_cons] at hl hlj ⊢
    have ih := feed_agree l1 l2 (push x1 b1) (push x2 b2) j (by omega) (by omega) hj (fun b hb => hb1 b (List.mem_cons_of_mem _ hb)) (fun b hb => hb2 b (List.mem_cons_of_mem _ hb)) (push_lt _ _) (push_lt _ _) h
    obtain ⟨i1, i2⟩ := ih
    have he : j - l1.length = (j - (l1.length + 1)) + 1 := by omega
    rw [he] at i1
    obtain ⟨k1, k2⟩ := push_agree x1 x2 b1 b2 (j - (l1.length + 1)) (by omega) i1
    refine ⟨k2, ?_⟩
    rintro rfl
    have c1 := hb1 b1 (List.mem_cons_self)
    have c2 := hb2 b2 (List.mem_cons_self)
    have hb : b1 = b2 := by
      by_cases p : x1 / 32768 = b1
      · have := k1.1 p; omega
      · have : ¬ x1 / 32768 = b2 := fun q => p (k1.2 q)
        omega
    subst hb
    rw [i2 rfl]
  | [], _ :: _, _, _, _, hl, _, _, _, _, _, _, _ => by simp at hl
  | _ :: _, [], _, _, _, hl, _, _, _, _, _, _, _ => by simp at hl

theorem push_inj (x1 x2 b : Nat) (h1 : x1 < 65536) (h2 : x2 < 65536) (hb : b < 2) (h : push x1 b = push x2 b) : x1 = x2 := by
  obtain ⟨k1, k2⟩ := push_agree x1 x2 b b 15 (by omega) (by rw [h])
  have e : (2 : Nat) ^ 15 = 32768 := rfl
  rw [e] at k2
  have : x1 / 32768 = x2 / 32768 := by
    by_cases p : x1 / 32768 = b
    · have := k1.1 p; omega
    · have : ¬ x2 / 32768 = b := fun q => p (k1.2 q)
      omega
  omega

theorem feed_inj : ∀ (l : List Nat) (x1 x2 : Nat), x1 < 65536 → x2 < 65536 → (∀ b ∈ l, b < 2) → feed x1 l = feed x2 l → x1 = x2
  | [], _, _, _, _, _, h => h
  | b :: l, x1, x2, h1, h2, hb, h => push_inj x1 x2 b h1 h2 (hb b List.mem_cons_self) (feed_inj l _ _ (push_lt _ _) (push_lt _ _) (fun c hc => hb c (List.mem_cons_of_mem _ hc)) h)

/-- Two rows of bits that are unlike within 16 places alone, and fed to the same number, are told apart. -/
theorem feed_finds (p m1 m2 q : List Nat) (x : Nat) (hx : x < 65536) (hl : m1.length = m2.length) (h16 : m1.length ≤ 16) (hb1 : ∀ b ∈ m1, b < 2) (hb2 : ∀ b ∈ m2, b < 2) (hq : ∀ b ∈ q, b < 2) (h : feed x (p ++ m1 ++ q) = feed x (p ++ m2 ++ q)) : m1 = m2 := by
  simp only [feed_append] at h
  have hp := feed_lt p x hx
  have h2 := feed_inj q _ _ (feed_lt _ _ hp) (feed_lt _ _ hp) hq h
  exact (feed_agree m1 m2 _ _ 16 hl h16 (by omega) hb1 hb2 hp hp (by rw [h2])).2 rfl

/-- All bits of a text. -/
def bitsOf (l : List UInt8) : List Nat := l.flatMap fun b => bitsTo b.toNat 8

theorem bitsTo_length (b k : Nat) : (bitsTo b k).length = k := by simp [bitsTo]
theorem bitOf_lt (b k : Nat) : bitOf b k < 2 := by unfold bitOf; omega
theorem bitsOf_lt (l : List UInt8) : ∀ b ∈ bitsOf l, b < 2 := by
  intro b hb
  simp only [bitsOf, List.mem_flatMap, bitsTo, List.mem_map] at hb
  obtain ⟨_, _, k, _, rfl⟩ := hb
  exact bitOf_lt _ _
theorem bitsOf_length (l : List UInt8) : (bitsOf l).length = 8 * l.length := by
  induction l with
  | nil => rfl
  | cons b l ih =>
    have : bitsOf (b :: l) = bitsTo b.toNat 8 ++ bitsOf l := rfl
    rw [this, List.length_append, ih, bitsTo_length]
    simp; omega
theorem from_bits (l : List UInt8) (x : Nat) : from' x l = feed x (bitsOf l) := by
  induction l generalizing x with
  | nil => rfl
  | cons b l ih =>
    have : bitsOf (b :: l) = bitsTo b.toNat 8 ++ bitsOf l := rfl
    rw [this, feed_append, ← ih]
    rfl
theorem bitsOf_at (l : List UInt8) (j k : Nat) (hk : k < 8) : (bitsOf l)[8 * j + k]? = l[j]?.map fun b => bitOf b.toNat k := by
  induction l generalizing j with
  | nil => simp [bitsOf]
  | cons b l ih =>
    have e : bitsOf (b :: l) = bitsTo b.toNat 8 ++ bitsOf l := rfl
    rw [e]
    cases j with
    | zero =>
      rw [List.getElem?_append_left (by rw [bitsTo_length]; omega)]
      simp [bitsTo, hk]
    | succ j =>
      rw [List.getElem?_append_right (by rw [bitsTo_length]; omega), bitsTo_length, show 8 * (j + 1) + k - 8 = 8 * j + k from by omega, ih]
      simp
theorem bits_inj (x y : UInt8) (h : ∀ k, k < 8 → bitOf x.toNat k = bitOf y.toNat k) : x = y := by
  have h0 := h 0 (by omega); have h1 := h 1 (by omega); have h2 := h 2 (by omega); have h3 := h 3 (by omega)
  have h4 := h 4 (by omega); have h5 := h 5 (by omega); have h6 := h 6 (by omega); have h7 := h 7 (by omega)
  simp [bitOf] at h0 h1 h2 h3 h4 h5 h6 h7
  have b1 := x.toNat_lt
  have b2 := y.toNat_lt
  apply UInt8.toNat_inj.1
  omega
theorem bitsOf_inj (a b : List UInt8) (hl : a.length = b.length) (h : bitsOf a = bitsOf b) : a = b := by
  apply List.ext_getElem hl
  intro j h1 h2
  apply bits_inj
  intro k hk
  have e1 := bitsOf_at a j k hk
  have e2 := bitsOf_at b j k hk
  rw [h, e2, List.getElem?_eq_getElem h1, List.getElem?_eq_getElem h2] at e1
  simpa using e1.symm

/-- Texts that are unlike, but only within 16 bits one behind the other, have other checks. -/
theorem finds (a b : List UInt8) (n x : Nat) (hx : x < 65536) (hl : a.length = b.length) (hne : a ≠ b) (h : ∀ p, (p < n ∨ n + 16 ≤ p) → (bitsOf a)[p]? = (bitsOf b)[p]?) : from' x a ≠ from' x b := by
  intro he
  apply hne
  apply bitsOf_inj a b hl
  rw [from_bits, from_bits] at he
  have hL : (bitsOf a).length = (bitsOf b).length := by rw [bitsOf_length, bitsOf_length, hl]
  have ha : bitsOf a = (bitsOf a).take n ++ ((bitsOf a).drop n).take 16 ++ (bitsOf a).drop (n + 16) := by
    rw [List.append_assoc, ← List.drop_drop, List.take_append_drop, List.take_append_drop]
  have hb : bitsOf b = (bitsOf b).take n ++ ((bitsOf b).drop n).take 16 ++ (bitsOf b).drop (n + 16) := by
    rw [List.append_assoc, ← List.drop_drop, List.take_append_drop, List.take_append_drop]
  have e1 : (bitsOf a).take n = (bitsOf b).take n := by
    apply List.ext_getElem?
    intro i
    rw [List.getElem?_take, List.getElem?_take]
    split
    · exact h i (by omega)
    · rfl
  have e2 : (bitsOf a).drop (n + 16) = (bitsOf b).drop (n + 16) := by
    apply List.ext_getElem?
    intro i
    rw [List.getElem?_drop, List.getElem?_drop]
    exact h _ (by omega)
  rw [ha, hb, e1, e2] at he
  have hm := feed_finds _ _ _ _ x hx (by simp [hL]) (by simp; omega) (fun c hc => bitsOf_lt a c (List.mem_of_mem_drop (List.mem_of_mem_take hc))) (fun c hc => bitsOf_lt b c (List.mem_of_mem_drop (List.mem_of_mem_take hc))) (fun c hc => bitsOf_lt b c (List.mem_of_mem_drop hc)) he
  rw [ha, hb, e1, e2, hm]

/-- One bit turned. -/
theorem mask_bit : ∀ k k' : Fin 8, k ≠ k' → bitOf (2 ^ (7 - k.val)) k'.val = 0 := by decide +kernel
theorem bitOf_xor' (x y k : Nat) : bitOf (x ^^^ y) k = if bitOf x k = bitOf y k then 0 else 1 := by
  unfold bitOf
  rw [Nat.xor_div_two_pow, xor_mod2]
theorem turn_one (l : List UInt8) (i p : Nat) (hp : p ≠ i) (b y : UInt8) (hb : l[i / 8]? = some b) (hy : y.toNat = b.toNat ^^^ 2 ^ (7 - i % 8)) : (bitsOf (l.set (i / 8) y))[p]? = (bitsOf l)[p]? := by
  have e : p = 8 * (p / 8) + p % 8 := by omega
  rw [e, bitsOf_at _ _ _ (by omega), bitsOf_at _ _ _ (by omega)]
  by_cases h : i / 8 = p / 8
  · rw [← h, List.getElem?_set_self (List.getElem?_eq_some_iff.1 hb).1, hb]
    simp only [Option.map_some]
    congr 1
    rw [hy, bitOf_xor']
    have hm := mask_bit ⟨i % 8, by omega⟩ ⟨p % 8, by omega⟩ (by intro q; injection q with q; omega)
    simp only at hm
    rw [hm]
    have := bitOf_lt b.toNat (p % 8)
    split <;> omega
  · rw [List.getElem?_set_ne h]
end Go.Proofs.Ytlhjhdheejdgnab.Cr
