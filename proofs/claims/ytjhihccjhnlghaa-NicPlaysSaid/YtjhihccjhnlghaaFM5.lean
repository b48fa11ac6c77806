/- Frames: For, the short trial, and plain facts for the laws. -/
import Derived.Test.YtjhihccjhnlghaaFM2
import Derived.Test.YtjhihccjhnlghaaFM4
namespace Go.Proofs.Ytjhihccjhnlghaa
open Go.RowKit Go.Lib
set_option linter.unusedVariables false

namespace Fr
section
variable {t f : Int} {d : ByteArray}
theorem prefix_bt {x y : ByteArray} {i : Nat} (h : i < x.size) : bt (x ++ y) i = bt x i := by
  have h' : i < (x ++ y).size := by rw [ByteArray.size_append]; omega
  rw [bt_of h', bt_of h, ByteArray.getElem_append_left h]
theorem hd0 (h0 : 0 ≤ t) (h1 : t ≤ 255) : (bt (hd t f d) 0 : Int) = t := by
  rw [bt_of (by rw [hd_size]; decide)]
  show ((UInt8.ofNat t.toNat).toNat : Int) = t
  simp
  omega
theorem hd1 (h0 : 0 ≤ f) (h1 : f ≤ 255) : (bt (hd t f d) 1 : Int) = f := by
  rw [bt_of (by rw [hd_size]; decide)]
  show ((UInt8.ofNat f.toNat).toNat : Int) = f
  simp
  omega
theorem hd2 (h : d.size ≤ 32) : bt (hd t f d) 2 = d.size := by
  rw [bt_of (by rw [hd_size]; decide)]
  show (UInt8.ofNat d.size).toNat = d.size
  simp
  omega
theorem all_bt (i : Nat) (hi : i < 3) (z : ByteArray) : bt (Cr.sealed (hd t f d ++ d) ++ z) i = bt (hd t f d) i := by
  rw [Cr.sealed, ByteArray.append_assoc, ByteArray.append_assoc, prefix_bt (by rw [hd_size]; omega)]
theorem all_size : (Cr.sealed (hd t f d ++ d)).size = d.size + 5 := by
  rw [Cr.sealed_size, ByteArray.size_append, hd_size]
  omega
theorem app_empty (x : ByteArray) : x ++ (⟨#[]⟩ : ByteArray) = x := by
  apply ByteArray.ext
  simp
theorem all_bt' (i : Nat) (hi : i < 3) : bt (Cr.sealed (hd t f d ++ d)) i = bt (hd t f d) i := by
  have := all_bt (t := t) (f := f) (d := d) i hi ⟨#[]⟩
  rwa [app_empty] at this
/-- What was printed is parsed as it was. -/
theorem back (ht0 : 0 ≤ t) (ht1 : t ≤ 255) (hf0 : 0 ≤ f) (hf1 : f ≤ 255) (hd' : d.size ≤ 32) : paV (Cr.sealed (hd t f d ++ d)) = ((t, f, d), 0) := by
  have b2 := all_bt' (t := t) (f := f) (d := d) 2 (by omega)
  rw [hd2 hd'] at b2
  have hx : (hd t f d ++ d).size = d.size + 3 := by rw [ByteArray.size_append, hd_size]; omega
  have hh := Cr.sealed_head (hd t f d ++ d)
  rw [hx] at hh
  rw [pa_ok (by rw [b2]; exact hd') (by rw [b2]; exact all_size) (by rw [b2, hh]), b2, all_bt' 0 (by omega), all_bt' 1 (by omega), hd0 ht0 ht1, hd1 hf0 hf1]
  have he : (Cr.sealed (hd t f d ++ d)).extract 3 (d.size + 3) = d := by
    have h1 : (hd t f d ++ d).extract 3 (d.size + 3) = d := ByteArray.extract_append_eq_right (by rw [hd_size]) (by rw [hd_size]; omega)
    have h2 : (Cr.sealed (hd t f d ++ d)).extract 3 (d.size + 3) = ((Cr.sealed (hd t f d ++ d)).extract 0 (d.size + 3)).extract 3 (d.size + 3) := by
      rw [ByteArray.extract_extract]
      simp
    rw [h2, hh, h1]
  rw [he]
/-- A frame's bytes that are cut off end too early. -/
theorem cut_end (hd' : d.size ≤ 32) (k : Nat) (hk : k < d.size + 5) : paV ((Cr.sealed (hd t f d ++ d)).extract 0 k) = ((0, 0, ⟨#[]⟩), 5) := by
  have hs := all_size (t := t) (f := f) (d := d)
  have hz : ((Cr.sealed (hd t f d ++ d)).extract 0 k).size = k := by
    rw [ByteArray.size_extract, hs]
    omega
  by_cases h3 : k < 3
  · exact pa_short (by rw [hz]; exact h3)
  · have b2 : bt ((Cr.sealed (hd t f d ++ d)).extract 0 k) 2 = d.size := by
      have e := all_bt' (t := t) (f := f) (d := d) 2 (by omega)
      rw [hd2 hd'] at e
      rw [← e, bt_of (by rw [hz]; omega), bt_of (by rw [hs]; omega), ByteArray.getElem_extract]
    exact pa_end (by rw [hz]; omega) (by rw [b2]; exact hd') (by rw [b2, hz]; exact hk)
/-- With more behind they are of another form. -/
theorem more_form (hd' : d.size ≤ 32) (z : ByteArray) (hz : 0 < z.size) : paV (Cr.sealed (hd t f d ++ d) ++ z) = ((0, 0, ⟨#[]⟩), 3) := by
  have hs := all_size (t := t) (f := f) (d := d)
  have b2 := all_bt (t := t) (f := f) (d := d) 2 (by omega) z
  rw [hd2 hd'] at b2
  exact pa_form (by rw [ByteArray.size_append]; omega) (by rw [b2]; exact hd') (by rw [b2, ByteArray.size_append]; omega)
end

theorem head3 {s : ByteArray} (h : 3 ≤ s.size) : (⟨#[UInt8.ofNat (bt s 0), UInt8.ofNat (bt s 1), UInt8.ofNat (bt s 2)]⟩ : ByteArray) = s.extract 0 3 := by
  rw [bt_of (by omega), bt_of (by omega), bt_of (by omega), UInt8.ofNat_toNat, UInt8.ofNat_toNat, UInt8.ofNat_toNat]
  apply ByteArray.ext
  rw [ByteArray.data_extract]
  obtain ⟨⟨l⟩⟩ := s
  match l, h with
  | a :: b :: c :: r, h =>
    apply Array.toList_inj.1
    simp
    exact ⟨rfl, rfl, rfl⟩
/-- What is parsed is printed as those bytes. -/
theorem forth {s : ByteArray} (h : (paV s).2 = 0) : prV (paV s).1.1 (paV s).1.2.1 (paV s).1.2.2 = (s, 0) ∧ (paV s).1.2.2.size ≤ 32 := by
  by_cases h3 : s.size < 3
  · rw [pa_short h3] at h; cases h
  · by_cases h32 : 32 < bt s 2
    · rw [pa_limit (by omega) h32] at h; cases h
    · by_cases hlt : s.size < bt s 2 + 5
      · rw [pa_end (by omega) (by omega) hlt] at h; cases h
      · by_cases hgt : bt s 2 + 5 < s.size
        · rw [pa_form (by omega) (by omega) hgt] at h; cases h
        · have hsz : s.size = bt s 2 + 5 := by omega
          by_cases he : Cr.sealed (s.extract 0 (bt s 2 + 3)) = s
          · rw [pa_ok (by omega) hsz he]
            have z3 : (s.extract 3 (bt s 2 + 3)).size = bt s 2 := by rw [ByteArray.size_extract]; omega
            refine ⟨?_, by show (s.extract 3 (bt s 2 + 3)).size ≤ 32; rw [z3]; omega⟩
            have x0 := bt_lt s 0
            have x1 := bt_lt s 1
            show prV (bt s 0 : Int) (bt s 1 : Int) (s.extract 3 (bt s 2 + 3)) = (s, 0)
            rw [ok_of (by omega) (by omega) (by omega) (by omega) (by rw [z3]; omega)]
            have hh : hd (bt s 0 : Int) (bt s 1 : Int) (s.extract 3 (bt s 2 + 3)) = s.extract 0 3 := by
              rw [hd, z3, Int.toNat_natCast, Int.toNat_natCast]
              exact head3 (by omega)
            have hcat : s.extract 0 3 ++ s.extract 3 (bt s 2 + 3) = s.extract 0 (bt s 2 + 3) := by
              rw [ByteArray.extract_append_extract]
              simp
            rw [hh, hcat, he]
          · rw [pa_bad (by omega) hsz he] at h; cases h
end Fr
end Go.Proofs.Ytjhihccjhnlghaa
