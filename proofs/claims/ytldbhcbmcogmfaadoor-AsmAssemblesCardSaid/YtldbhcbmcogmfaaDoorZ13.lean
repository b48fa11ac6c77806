import Derived.Test.YtldbhcbmcogmfaaDoorZ12
import Derived.Test.YtldbhcbmcogmfaaDoorZ03
import Derived.Deep.CutRange
import Derived.Test.YtldbhcbmcogmfaaDoorZ08
import Derived.Lib.QuietBelow
set_option linter.all false
/- The document's Read, by its contract: lines that are passed over, labels. -/
namespace Go.Proofs.YtldbhcbmcogmfaaDoor
open Go.RowKit Go.Lib
set_option linter.unusedVariables false
set_option maxRecDepth 8000

abbrev Am.zl : Array Value := #[.string ⟨#[]⟩, .slice none 0 0, .slice none 0 0, .string ⟨#[]⟩, .bool false]
theorem Am.RdP.res {w W : World} {l : Am.Ln} {r : Am.RL} {E : Am.SC × Am.SC} {wr : Bool} (h : Am.LnM W w.heap.size (.slice E.1.1 r.ns.length E.1.2) (.slice E.2.1 r.ss.length E.2.2) r.ns r.ss) (b : Below w.heap.size w W) (q : Am.LinR l r wr) : Am.RdP w l (.returned (.agg #[.string ⟨r.lb.toArray⟩, .slice E.1.1 r.ns.length E.1.2, .slice E.2.1 r.ss.length E.2.2, .string ⟨r.nm.toArray⟩, .bool wr])) W := ⟨b, r, E, wr, rfl, h, q⟩
/-- A line without numbers stored as1 the result. -/
theorem Am.res_nil {w W : World} (lb : List UInt8) (wr : Bool) (l : Am.Ln) (P : Blk W w.heap.size 35 Am.zl) (b : Below w.heap.size w W) (q : Am.LinR l ⟨lb, [], [], []⟩ wr) : ∃ WX, WX = ((((W.setCell ⟨w.heap.size, 0, none⟩ (.string ⟨lb.toArray⟩)).setCell ⟨w.heap.size, 1, none⟩ (.slice none 0 0)).setCell ⟨w.heap.size, 2, none⟩ (.slice none 0 0)).setCell ⟨w.heap.size, 3, none⟩ (.string ⟨#[]⟩)).setCell ⟨w.heap.size, 4, none⟩ (.bool wr) ∧ Blk WX w.heap.size 35 #[.string ⟨lb.toArray⟩, .slice none 0 0, .slice none 0 0, .string ⟨#[]⟩, .bool wr] ∧ Am.RdP w l (.returned (.agg #[.string ⟨lb.toArray⟩, .slice none 0 0, .slice none 0 0, .string ⟨#[]⟩, .bool wr])) WX := by
  obtain ⟨WX, hX, Q, bX, mX, _⟩ := Am.res_put (lb := ⟨lb.toArray⟩) (nm := ⟨#[]⟩) (wr := wr) P b (Am.LnM.nil W _)
  exact ⟨WX, hX, Q, Am.RdP.res (r := ⟨lb, [], [], []⟩) (E := ((none, 0), (none, 0))) mX bX q⟩
set_option maxRecDepth 20000 in
set_option maxHeartbeats 1600000 in
theorem Am.rread_pass (s : ByteArray) (w : World) (h : ¬ (0 < s.size ∧ s.data.toList.head? ≠ some 35)) : Calls Tryd.prog 19 #[.string s] w (Am.RdP w (Am.line s.data.toList)) := by
  obtain ⟨W, hW, G, P⟩ := Am.box1 w 35 Am.zl
  have b : Below w.heap.size w W := below_of_only G (Nat.le_refl _) (by simp)
  have hl : Am.line s.data.toList = ⟨0, [], []⟩ := by
    unfold Am.line
    rw [if_pos]
    by_cases h0 : 0 < s.size
    · refine .inr (Classical.byContradiction fun e => h ⟨h0, e⟩)
    · refine .inl (List.eq_nil_of_length_eq_zero (by rw [Am.len]; omega))
  rw [hl]
  obtain ⟨WX, hX, Q, R⟩ := Am.res_nil [] false (⟨0, [], []⟩ : Am.Ln) P b (.inl ⟨rfl, rfl, rfl⟩)
  obtain ⟨a0, a1, a2, a3, a4, g0, g1, g2, g3, g4⟩ := Am.box5c P
  obtain ⟨q0, q1, q2, q3, q4, _⟩ := Am.box5c Q
  have HR := Lib.hid R
  clear hl G P b R Q
  by_cases h0 : 0 < s.size
  · have hc : s[0]'h0 = 35 := by
      have := Am.head_of h0
      refine Classical.byContradiction fun e => h ⟨h0, ?_⟩
      rw [this]
      intro q
      injection q with q
      exact e q
    have i1 : ((s[0]'h0).toNat : Int) = 35 := by rw [hc]; rfl
    have j3 := Am.str_some (Am.ne_of h0)
    clear h hc
    go_enter Tryd.func19, Tryd.ntmps19
    go_upto_region 1 with (fail)
    rw [← hW]
    clear hW
    go_wp2
    rw [← hX]
    clear hX
    exact bodyPost_ret (v := .agg #[.string ⟨#[]⟩, .slice none 0 0, .slice none 0 0, .string ⟨#[]⟩, .bool false]) (by simp [results, Tryd.results19, go_sem, q0, q1, q2, q3, q4]) rfl HR.out
  · have hs : s = ⟨#[]⟩ := Am.empty_of h0
    subst hs
    clear h h0
    go_enter Tryd.func19, Tryd.ntmps19
    go_upto_region 1 with (fail)
    rw [← hW]
    clear hW
    go_wp2
    rw [← hX]
    clear hX
    exact bodyPost_ret (v := .agg #[.string ⟨#[]⟩, .slice none 0 0, .slice none 0 0, .string ⟨#[]⟩, .bool false]) (by simp [results, Tryd.results19, go_sem, q0, q1, q2, q3, q4]) rfl HR.out
/-- What Split leaves, for Read. -/
structure Am.RdS (w w3 : World) (g off n : Nat) (v : List UInt8) (r : List (List UInt8)) (A : Option Addr) (c : Nat) : Prop where
  blk : Blk w3 w.heap.size 35 Am.zl
  bel : Below w.heap.size w w3
  row : RowZ 1 w3 (.slice A n c) (v :: r).length (Am.strs (v :: r))
  ad : A = some ⟨g, off, none⟩
  c0 : w3.cell? ⟨g, off, none⟩ = some (.string ⟨v.toArray⟩)
  lt : w.heap.size < g ∧ g < w3.heap.size
theorem Am.rd_split (s : ByteArray) (hs : s.size ≤ 100000) (w W : World) (hW : W = w.alloc (.cells Am.zl 35)) (v : List UInt8) (r : List (List UInt8)) (n : Nat) (hL : Am.spl 32 s.data.toList = v :: r) (hn : n = (v :: r).length) : Calls Tryd.prog 18 #[.string s, .int .u8 32] W fun e w3 => ∃ A c g off, e = .returned (.slice A n c) ∧ Am.RdS w w3 g off n v r A c := by
  have h := Am.rsplit_any s hs 32 W
  rw [hL] at h
  refine (show Calls Tryd.prog 18 #[.string s, .int .u8 32] W _ from h).mono fun e w3 ⟨A, c, he, hS⟩ => ?_
  rw [← hn] at he
  obtain ⟨h1, h2, h3⟩ := hS
  obtain ⟨g, off, hA, hg, hc⟩ := Am.word_at h1 (by simp)
  have hz : W.heap.size = w.heap.size + 1 := by rw [hW]; simp
  have b0 : Below w.heap.size w W := by rw [hW]; exact below_of_only (only_alloc (only_refl w none) _) (Nat.le_refl _) (by simp)
  refine ⟨A, c, g, off, he, ?_, b0.trans (h3.mono b0.size), by rw [hn]; exact h1, hA, hc 0 (by simp), ?_, hg⟩
  · refine Blk.below (B := W.heap.size) ?_ h3 (by omega)
    rw [hW]
    exact Blk.new w _ _
  · have := h2 g (by rw [hA]; simp [Value.ownBlock])
    omega
end Go.Proofs.YtldbhcbmcogmfaaDoor

/- The document's Read, by its contract: labels, bytes, twos. -/
namespace Go.Proofs.YtldbhcbmcogmfaaDoor
open Go.RowKit Go.Lib
set_option linter.unusedVariables false
set_option maxRecDepth 8000

theorem Am.str_neq {a : ByteArray} {l : List UInt8} (h : a.data.toList ≠ l) : (a.toList == l) = false := by
  apply beq_eq_false_iff_ne.2
  rw [ByteArray.toList_eq]
  exact h
theorem Am.str_eq {a : ByteArray} {l : List UInt8} (h : a.data.toList = l) : (a.toList == l) = true := by
  rw [ByteArray.toList_eq, h]
  simp
theorem Am.cut_last {a : ByteArray} {z : Nat} (h : a.size = z + 1) : (a.extract 0 z).data.toList = a.data.toList.dropLast := by
  rw [Go.Lib.extract_data, List.drop_zero, Nat.sub_zero, List.dropLast_eq_take, Am.len, h]
  rfl
theorem Am.last_at {a : ByteArray} {z : Nat} (h : a.size = z + 1) : a.data.toList.getLast? = some (a[z]'(by omega)) := by
  have hl := Am.len a
  have hi : a.data.toList.length - 1 = z := by omega
  rw [List.getLast?_eq_getElem?, hi, List.getElem?_eq_getElem (by omega), Am.at_eq a z (by omega)]
set_option maxRecDepth 20000 in
set_option maxHeartbeats 1600000 in
theorem Am.rread_label (s : ByteArray) (hs : s.size ≤ 100000) (w : World) (hl58 : s.data.toList.getLast? = some 58) (hnm : Am.isName s.data.toList.dropLast = true) : Calls Tryd.prog 19 #[.string s] w (Am.RdP w (Am.line s.data.toList)) := by
  obtain ⟨W, hW, G, P⟩ := Am.box1 w 35 Am.zl
  obtain ⟨d, hd⟩ : ∃ d, s.data.toList = d ++ [58] := by
    rw [List.getLast?_eq_some_iff] at hl58
    exact hl58
  have hdn : Am.isName d = true := by rw [hd, List.dropLast_concat] at hnm; exact hnm
  have hln := Am.zname_len hdn
  obtain ⟨e1, e2⟩ := Am.rline_label hdn
  have hsz : s.size = d.length + 1 := by rw [← Am.len s, hd]; simp
  have hsp := Am.rd_split s hs w W hW s.data.toList [] 1 (by rw [hd]; exact e2) rfl
  have HSP := Lib.hid hsp
  have HW := Lib.hid (show w.heap.size < W.heap.size from P.lt)
  have hs0 : 0 < s.size := by omega
  have hh := Am.head_of hs0
  have hne35 : ¬ ((s[0]'hs0).toNat : Int) = 35 := by
    intro q
    have hq : (s[0]'hs0) ∈ d := by
      rw [hd] at hh
      cases d with
      | nil => simp at hln
      | cons c d => simp at hh; rw [← hh]; simp
    have := (Am.name_no hdn hq).1
    omega
  have j3 := Am.str_some (Am.ne_of hs0)
  obtain ⟨z, hz⟩ : ∃ z, z = d.length := ⟨_, rfl⟩
  have hzs : s.size = z + 1 := by rw [hz]; exact hsz
  have hlast : (s[z]'(by omega)) = 58 := by
    have := Am.last_at hzs
    rw [hl58] at this
    injection this with this
    exact this.symm
  have hiz : z < s.size := by omega
  have i58 : ((s[z]'hiz).toNat : Int) = 58 := by rw [hlast]; rfl
  have hcut := Am.cut_last hzs
  have hll : Am.isName (s.extract 0 z).data.toList = true := by rw [hcut]; exact hnm
  have HLT := Lib.hid (fun (w9 : World) => by have := Am.rletters_any (s.extract 0 z) (by simp; omega) w9; rw [hll] at this; exact this)
  have HX := Lib.hid (show (⟨(s.data.toList.dropLast).toArray⟩ : ByteArray) = s.extract 0 z from by rw [← hcut])
  have HLN := Lib.hid (show Am.line s.data.toList = ⟨1, [], s.data.toList.dropLast⟩ from by rw [hd, List.dropLast_concat]; exact e1)
  have i1 : (1 : Int) < (s.size : Int) := by omega
  have i2 : (0 : Int) ≤ (z : Int) := by omega
  have i3 : (z : Int) < (s.size : Int) := by omega
  have i4 : (z : Int) ≤ (s.size : Int) := by omega
  have u1 : IntKind.i64.wrap ((s.size : Int) - 1) = (z : Int) := by rw [IntKind.wrap_i64]; omega
  have hsa : (⟨s.data.toList.toArray⟩ : ByteArray) = s := by simp
  clear hd hdn hln e1 e2 hsz hsp hh hz hlast hcut hll hl58 hnm P G hs hzs
  go_enter Tryd.func19, Tryd.ntmps19
  go_upto_region 1 with (fail)
  rw [← hW]
  clear hW
  go_upto_region 5 with (go_at_call 18; (with_reducible refine HSP.out.mono ?_); rintro e w3 ⟨A, c, g, off, rfl, hR⟩; obtain rfl := hR.ad; have c0 := hR.c0; rw [hsa] at c0; have HR := Lib.hid hR; clear hR)
  clear HSP hne35 j3
  obtain ⟨WX, hX, Q, R⟩ := Am.res_nil s.data.toList.dropLast false (Am.line s.data.toList) HR.out.blk HR.out.bel (by rw [HLN.out]; exact .inr (.inl ⟨rfl, rfl, rfl⟩))
  obtain ⟨a0, a1, a2, a3, a4, g0, g1, g2, g3, g4⟩ := Am.box5c HR.out.blk
  rw [HX.out] at hX Q R
  obtain ⟨q0, q1, q2, q3, q4, _⟩ := Am.box5c Q
  have HRR := Lib.hid R
  clear R Q
  go_wp2_with (go_at_call 31; (with_reducible refine (HLT.out _).mono ?_); rintro e w4 ⟨rfl, rfl⟩)
  rw [← hX]
  clear hX
  exact bodyPost_ret (v := .agg #[.string (s.extract 0 z), .slice none 0 0, .slice none 0 0, .string ⟨#[]⟩, .bool false]) (by simp [results, Tryd.results19, go_sem, q0, q1, q2, q3, q4]) rfl HRR.out
theorem Am.byte_lin (x : List UInt8) : Am.Lin ((Am.num x 255).map fun n => ([UInt8.ofNat n], [])) ⟨[], [], [Am.numZ x 255], [1]⟩ (decide (Am.numZ x 255 < 0)) := by
  unfold Am.numZ
  cases e : Am.num x 255 with
  | none => exact .inl ⟨rfl, rfl⟩
  | some n =>
    refine .inr ⟨_, rfl, ?_, rfl, rfl, ⟨by unfold Am.Szs; simp, by simp, by simp⟩, by show [UInt8.ofNat ((n : Int) % 256).toNat] ++ [] = _; rw [Am.u8_mod]; rfl, fun hh => absurd rfl hh⟩
    have : ¬ ((n : Int) < 0) := by omega
    simp [Am.optZ, this]
theorem Am.two_lin (wd : List UInt8) : Am.Lin ((Am.val wd).map fun q => ([UInt8.ofNat (q.1 % 256), UInt8.ofNat (q.1 / 256 % 256)], q.2)) ⟨[], Am.vNm wd, [Am.vN wd], [2]⟩ (Am.vW wd) := by
  have hf2 : ∀ (nm : List UInt8) (a : Int), Am.Fit ⟨[], nm, [a], [2]⟩ := fun nm a => ⟨by unfold Am.Szs; simp, by simp, by simp⟩
  unfold Am.val Am.vNm Am.vN Am.vW
  by_cases h : Am.isName wd = true
  · rw [if_pos h, if_pos h, if_pos h, h]
    exact .inr ⟨_, rfl, rfl, rfl, rfl, hf2 _ _, rfl, fun _ => rfl⟩
  · rw [if_neg h, if_neg h, if_neg h]
    have hf : Am.isName wd = false := by simpa using h
    rw [hf]
    unfold Am.numZ
    cases e : Am.num wd 65535 with
    | none => exact .inl ⟨rfl, rfl⟩
    | some n =>
      refine .inr ⟨_, rfl, ?_, rfl, rfl, hf2 _ _, by show [UInt8.ofNat ((n : Int) % 256).toNat, UInt8.ofNat ((n : Int) / 256 % 256).toNat] ++ [] = _; rw [(Am.u8_two n).1, (Am.u8_two n).2]; rfl, fun hh => absurd rfl hh⟩
      have : ¬ ((n : Int) < 0) := by omega
      simp [Am.optZ, this]
/-- The line of a byte's number. -/
theorem Am.byte_nums (w w3 : World) (k : Int) (h : Blk w3 w.heap.size 35 Am.zl) (b : Below w.heap.size w w3) : ∃ W5, W5 = (w3.alloc (.cells #[.int .i64 k] 3)).alloc (.cells #[.int .i64 1] 3) ∧ Blk W5 w.heap.size 35 Am.zl ∧ Below w.heap.size w W5 ∧ Am.LnM W5 (w.heap.size + 1) (.slice (some ⟨w3.heap.size, 0, none⟩) 1 1) (.slice (some ⟨w3.heap.size + 1, 0, none⟩) 1 1) [k] [1] := by
  obtain ⟨A1, hA1, g1, k1⟩ := Am.box1 w3 3 #[.int .i64 k]
  have z1 : A1.heap.size = w3.heap.size + 1 := by rw [hA1]; simp
  obtain ⟨A2, hA2, g2, k2⟩ := Am.box1 A1 3 #[.int .i64 1]
  rw [z1] at k2
  have hlt := h.lt
  have mk : ∀ (W : World) (g : Nat) (a : Int), Blk W g 3 #[.int .i64 a] → RowZ 1 W (.slice (some ⟨g, 0, none⟩) 1 1) [a].length (Am.intsC [a]) := fun W g a h => ⟨rfl, .inr ⟨g, 0, 1, rfl, by simp, by decide, h.lt, fun j hj => ⟨by
      rw [Nat.zero_add, h.cell j]
      have : j = 0 := by omega
      subst this; rfl, by rw [Nat.zero_add]; exact h.free j⟩, fun j u hu => by
      rw [Nat.zero_add, h.cell j]
      simpa [Am.intsC] using hu⟩⟩
  refine ⟨A2, by rw [hA2, hA1], (h.only g1 (by simp)).only g2 (by simp), (b.trans (below_of_only g1 b.size (by simp))).trans (below_of_only g2 (Nat.le_trans b.size g1.size) (by simp)), mk _ _ _ (k1.only g2 (by simp)), mk _ _ _ k2, fun q hq => ?_, fun q hq => ?_, fun q hq e => ?_⟩
  · simp [Value.ownBlock] at hq; omega
  · simp [Value.ownBlock] at hq; omega
  · simp [Value.ownBlock] at hq e; omega
set_option maxRecDepth 20000 in
set_option maxHeartbeats 1600000 in
theorem Am.rread_byte (s : ByteArray) (hs : s.size ≤ 100000) (w : World) (x : List UInt8) (hL : Am.spl 32 s.data.toList = [[98, 121, 116, 101], x]) (h0 : 0 < s.size) (h35 : ¬ ((s[0]'h0).toNat : Int) = 35) (hln : Am.line s.data.toList = Am.sen [98, 121, 116, 101] [x]) : Calls Tryd.prog 19 #[.string s] w (Am.RdP w (Am.line s.data.toList)) := by
  obtain ⟨W, hW, G, P⟩ := Am.box1 w 35 Am.zl
  have HSP := Lib.hid (Am.rd_split s hs w W hW _ _ 2 hL rfl)
  have j3 := Am.str_some (Am.ne_of h0)
  have hx : x.length ≤ 100000 := by
    have := Am.spl_sum 32 s.data.toList x (by rw [hL]; simp)
    rw [Am.len] at this
    omega
  rw [hln]
  have HLI := Lib.hid (show Am.LinR (Am.sen [98, 121, 116, 101] [x]) ⟨[], [], [Am.numZ x 255], [1]⟩ (decide (Am.numZ x 255 < 0)) from by
    unfold Am.sen
    rw [if_pos rfl]
    exact Am.LinR.of (Am.byte_lin x))
  have HN := Lib.hid (fun W => (show Calls Tryd.prog 32 #[.string ⟨x.toArray⟩, .int .i64 255] W _ from Am.rnumber_any ⟨x.toArray⟩ (by show x.toArray.size ≤ 100000; simpa using hx) 255 (by omega) W))
  rw [show (⟨x.toArray⟩ : ByteArray).data.toList = x from by simp] at HN
  generalize Am.numZ x 255 = k at *
  obtain ⟨xb, hxb⟩ : ∃ xb : ByteArray, xb = ⟨x.toArray⟩ := ⟨_, rfl⟩
  rw [← hxb] at HN
  have HXB := Lib.hid hxb
  clear hL hln hx P G hs hxb
  go_enter Tryd.func19, Tryd.ntmps19
  go_upto_region 1 with (fail)
  rw [← hW]
  clear hW
  go_upto_region 4 with (go_at_call 18; (with_reducible refine HSP.out.mono ?_); rintro e w3 ⟨A, c, g, off, rfl, hR⟩; obtain rfl := hR.ad; have HR := Lib.hid hR; clear hR)
  have c0 : w3.cell? ⟨g, off, none⟩ = some (.string ⟨#[98, 121, 116, 101]⟩) := HR.out.c0
  have c1 : w3.cell? ⟨g, off + 1, none⟩ = some (.string xb) := by
    obtain ⟨g', off', hA, _, hc⟩ := Am.word_at HR.out.row (by simp)
    injection hA with hA
    injection hA with e1 e2
    subst e1 e2
    rw [HXB.out]
    exact hc 1 (by simp)
  obtain ⟨W5, hW5, P5, B5, M5⟩ := Am.byte_nums w w3 k HR.out.blk HR.out.bel
  obtain ⟨WX, hWX, Q, BX, MX, _⟩ := Am.res_put (lb := ⟨#[]⟩) (nm := ⟨#[]⟩) (wr := decide (k < 0)) P5 B5 M5
  obtain ⟨a0, a1, a2, a3, a4, g0, g1, g2, g3, g4⟩ := Am.box5c P5
  obtain ⟨q0, q1, q2, q3, q4, _⟩ := Am.box5c Q
  have HRES := Lib.hid (Am.RdP.res (r := ⟨[], [], [k], [1]⟩) (E := ((some ⟨w3.heap.size, 0, none⟩, 1), (some ⟨w3.heap.size + 1, 0, none⟩, 1))) MX BX HLI.out)
  clear P5 B5 M5 Q BX MX HSP h35 j3
  rw [hW5] at a0 a1 a2 a3 a4 g0 g1 g2 g3 g4
  go_wp2_with (go_at_call 32; (with_reducible refine (HN.out _).mono ?_); rintro e w4 ⟨rfl, rfl⟩)
  rw [← hW5, ← hWX]
  clear hW5 hWX
  exact bodyPost_ret (v := .agg #[.string ⟨#[]⟩, .slice (some ⟨w4.heap.size, 0, none⟩) 1 1, .slice (some ⟨w4.heap.size + 1, 0, none⟩) 1 1, .string ⟨#[]⟩, .bool (decide (k < 0))]) (by simp [results, Tryd.results19, go_sem, q0, q1, q2, q3, q4]) rfl HRES.out
set_option maxRecDepth 20000 in
set_option maxHeartbeats 1600000 in
theorem Am.rread_two (s : ByteArray) (hs : s.size ≤ 100000) (w : World) (x : List UInt8) (hL : Am.spl 32 s.data.toList = [[116, 119, 111], x]) (h0 : 0 < s.size) (h35 : ¬ ((s[0]'h0).toNat : Int) = 35) (hln : Am.line s.data.toList = Am.sen [116, 119, 111] [x]) : Calls Tryd.prog 19 #[.string s] w (Am.RdP w (Am.line s.data.toList)) := by
  obtain ⟨W, hW, G, P⟩ := Am.box1 w 35 Am.zl
  have HSP := Lib.hid (Am.rd_split s hs w W hW _ _ 2 hL rfl)
  have j3 := Am.str_some (Am.ne_of h0)
  have hx : x.length ≤ 100000 := by
    have := Am.spl_sum 32 s.data.toList x (by rw [hL]; simp)
    rw [Am.len] at this
    omega
  rw [hln]
  have HLI := Lib.hid (show Am.LinR (Am.sen [116, 119, 111] [x]) ⟨[], Am.vNm x, [Am.vN x], [2]⟩ (Am.vW x) from by
    unfold Am.sen
    rw [if_neg (by decide), if_pos rfl]
    exact Am.LinR.of (Am.two_lin x))
  have HSX := Lib.hid (show (⟨x.toArray⟩ : ByteArray).size ≤ 100000 by show x.toArray.size ≤ 100000; simpa using hx)
  have HXX := Lib.hid (show (⟨x.toArray⟩ : ByteArray).data.toList = x from by simp)
  obtain ⟨xb, hxb⟩ : ∃ xb : ByteArray, xb = ⟨x.toArray⟩ := ⟨_, rfl⟩
  rw [← hxb] at HSX HXX
  have HXB := Lib.hid hxb
  clear hL hln hx P G hs hxb
  go_enter Tryd.func19, Tryd.ntmps19
  go_upto_region 1 with (fail)
  rw [← hW]
  clear hW
  go_upto_region 4 with (go_at_call 18; (with_reducible refine HSP.out.mono ?_); rintro e w3 ⟨A, c, g, off, rfl, hR⟩; obtain rfl := hR.ad; have HR := Lib.hid hR; clear hR)
  have c0 : w3.cell? ⟨g, off, none⟩ = some (.string ⟨#[116, 119, 111]⟩) := HR.out.c0
  have c1 : w3.cell? ⟨g, off + 1, none⟩ = some (.string xb) := by
    obtain ⟨g', off', hA, _, hc⟩ := Am.word_at HR.out.row (by simp)
    injection hA with hA
    injection hA with e1 e2
    subst e1 e2
    rw [HXB.out]
    exact hc 1 (by simp)
  have hv := Am.rvalue_any ⟨#[]⟩ ⟨#[]⟩ xb HSX.out false (w.heap.size + 1) none none 0 0 [] [] w3 (Am.LnM.nil w3 _) (show w.heap.size + 1 ≤ w3.heap.size by have := HR.out.lt; omega) (by decide) (by decide)
  rw [Am.vNm_str, HXX.out] at hv
  have HV := Lib.hid (show Calls Tryd.prog 33 #[.agg #[.string ⟨#[]⟩, .slice none 0 0, .slice none 0 0, .string ⟨#[]⟩, .bool false], .string xb] w3 fun e w' => ∃ A c A2 c2, e = .returned (.agg #[.string ⟨#[]⟩, .slice A 1 c, .slice A2 1 c2, .string ⟨(Am.vNm x).toArray⟩, .bool (Am.vW x)]) ∧ Am.LnM w' (w.heap.size + 1) (.slice A 1 c) (.slice A2 1 c2) [Am.vN x] [2] ∧ Below (w.heap.size + 1) w3 w' ∧ _ from hv)
  obtain ⟨vn, hvn⟩ : ∃ vn : ByteArray, vn = ⟨(Am.vNm x).toArray⟩ := ⟨_, rfl⟩
  rw [← hvn] at HV
  have HVN := Lib.hid hvn
  generalize Am.vW x = vw at *
  clear hv hvn HSP j3 h35
  go_wp2_with (go_at_call 33; (with_reducible refine HV.out.mono ?_); rintro e w6 ⟨nA, nc, sA, sc, rfl, M6, bel, _⟩; have HM := Lib.hid M6; have P6 := HR.out.blk.below bel (Nat.lt_succ_self _); have B6 := Lib.hid (HR.out.bel.trans (bel.mono (Nat.le_succ _))); have HP6 := Lib.hid P6; obtain ⟨b0, b1, b2, b3, b4, f0, f1, f2, f3, f4⟩ := Am.box5c P6; clear P6 M6 bel)
  obtain ⟨WX, hWX, Q, BX, MX, _⟩ := Am.res_put (lb := ⟨#[]⟩) (nm := vn) (wr := vw) HP6.out B6.out HM.out
  rw [← hWX]
  clear hWX
  obtain ⟨q0, q1, q2, q3, q4, _⟩ := Am.box5c Q
  exact bodyPost_ret (v := .agg #[.string ⟨#[]⟩, .slice nA 1 nc, .slice sA 1 sc, .string vn, .bool vw]) (by simp [results, Tryd.results19, go_sem, q0, q1, q2, q3, q4]) rfl (by rw [HVN.out]; exact Am.RdP.res (r := ⟨[], Am.vNm x, [Am.vN x], [2]⟩) (E := ((nA, nc), (sA, sc))) MX BX HLI.out)
end Go.Proofs.YtldbhcbmcogmfaaDoor

/- The document's Read, by its contract: any other line; every line. -/
namespace Go.Proofs.YtldbhcbmcogmfaaDoor
open Go.RowKit Go.Lib Go.Sort
set_option linter.unusedVariables false
set_option maxRecDepth 8000

theorem Am.spl_one {y : UInt8} {l v : List UInt8} (h : Am.spl y l = [v]) : v = l := by
  have hl := Am.spl_len y l
  rw [h] at hl
  have : y ∉ l := by
    rw [← List.count_eq_zero]
    simp at hl
    omega
  rw [Am.spl_none y l this] at h
  injection h with h
  exact h.symm
theorem Am.nm_byte : ∀ k : Fin 16, nmX k.val ≠ [98, 121, 116, 101] ∧ nmX k.val ≠ [116, 119, 111] := by decide +kernel
theorem Am.sen_at {v : List UInt8} {r : List (List UInt8)} {k : Nat} (hk : k < 16) (h : nmL k = ⟨v.toArray⟩) : Am.sen v r = Am.lnO (Am.ins k r) := by
  have hv : nmX k = v := nmX_eq.2 h
  have hb := Am.nm_byte ⟨k, hk⟩
  unfold Am.sen
  rw [if_neg (by rw [← hv]; exact hb.1), if_neg (by rw [← hv]; exact hb.2), ndV_at hk h, if_pos rfl, Int.toNat_natCast]
theorem Am.sen_no {v : List UInt8} {r : List (List UInt8)} (hb : ¬ (v = [98, 121, 116, 101] ∧ r.length = 1)) (ht : ¬ (v = [116, 119, 111] ∧ r.length = 1)) (h : ∀ k, k < 16 → nmL k ≠ ⟨v.toArray⟩) : Am.sen v r = ⟨3, [], []⟩ := by
  unfold Am.sen
  by_cases h1 : v = [98, 121, 116, 101]
  · rw [if_pos h1, if_neg (fun e => hb ⟨h1, e⟩)]
    rfl
  · rw [if_neg h1]
    by_cases h2 : v = [116, 119, 111]
    · rw [if_pos h2, if_neg (fun e => ht ⟨h2, e⟩)]
      rfl
    · rw [if_neg h2, ndV_none h]
      rfl
set_option maxRecDepth 20000 in
set_option maxHeartbeats 6400000 in
theorem Am.rread_rest (s : ByteArray) (hs : s.size ≤ 100000) (w : World) (v : List UInt8) (r : List (List UInt8)) (hL : Am.spl 32 s.data.toList = v :: r) (h0 : 0 < s.size) (h35 : ¬ ((s[0]'h0).toNat : Int) = 35) (hlab : ¬ (s.data.toList.getLast? = some 58 ∧ Am.isName s.data.toList.dropLast = true)) (hb : ¬ (v = [98, 121, 116, 101] ∧ r.length = 1)) (ht : ¬ (v = [116, 119, 111] ∧ r.length = 1)) : Calls Tryd.prog 19 #[.string s] w (Am.RdP w (Am.sen v r)) := by
  obtain ⟨W, hW, G, P⟩ := Am.box1 w 35 Am.zl
  obtain ⟨n, hn⟩ : ∃ n, n = (v :: r).length := ⟨_, rfl⟩
  have HSP := Lib.hid (Am.rd_split s hs w W hW v r n hL hn)
  have j3 := Am.str_some (Am.ne_of h0)
  have hall : ∀ x ∈ v :: r, x.length ≤ 100000 := fun x hx => by
    have := Am.spl_sum 32 s.data.toList x (by rw [hL]; exact hx)
    rw [Am.len] at this
    omega
  obtain ⟨w0, hw0⟩ : ∃ w0 : ByteArray, w0 = ⟨v.toArray⟩ := ⟨_, rfl⟩
  have hv0 : w0.data.toList = v := by rw [hw0]
  have HK := Lib.hid (show ∀ k, k < 16 → nmL k = w0 → Am.sen v r = Am.lnO (Am.ins k (v :: r).tail) from fun k hk e => Am.sen_at hk (e.trans hw0))
  have HZ := Lib.hid (show (∀ k, k < 16 → nmL k ≠ w0) → Am.sen v r = ⟨3, [], []⟩ from fun h => Am.sen_no hb ht (fun k hk e => h k hk (e.trans hw0.symm)))
  have HALL := Lib.hid hall
  have HN := Lib.hid hn
  have hws : w0.size ≤ 100000 := by
    have := hall v (by simp)
    rw [← hv0, Am.len] at this
    exact this
  have HLAB := Lib.hid (show n = 1 → 1 < w0.size → ∀ z (hz : w0.size = z + 1), (w0[z]'(by omega)) = 58 → Am.isName (w0.extract 0 z).data.toList = false from fun h1 h2 z hz hc => by
    have hr : r = [] := List.eq_nil_of_length_eq_zero (by rw [hn] at h1; simpa using h1)
    subst hr
    have hvs := Am.spl_one hL
    rw [hvs] at hv0
    rw [Am.cut_last hz, hv0]
    cases e : Am.isName s.data.toList.dropLast with
    | false => rfl
    | true =>
      refine absurd ⟨?_, e⟩ hlab
      rw [← hv0, Am.last_at hz, hc])
  have HB := Lib.hid (show w0.data.toList = [98, 121, 116, 101] → n ≠ 2 from fun e q => hb ⟨hv0 ▸ e, by rw [hn] at q; simpa using q⟩)
  have HT := Lib.hid (show w0.data.toList = [116, 119, 111] → n ≠ 2 from fun e q => ht ⟨hv0 ▸ e, by rw [hn] at q; simpa using q⟩)
  have HWS := Lib.hid hws
  have HW0 := Lib.hid hw0
  have hn1 : 1 ≤ n := by rw [hn]; simp
  generalize Am.sen v r = S at *
  clear hL hlab hb ht hall hv0 hn P G hs hws hw0
  go_enter Tryd.func19, Tryd.ntmps19
  go_upto_region 1 with (fail)
  rw [← hW]
  clear hW
  go_upto_region 5 with (go_at_call 18; (with_reducible refine HSP.out.mono ?_); rintro e w3 ⟨A, c, g, off, rfl, hR⟩; obtain rfl := hR.ad; have c0 := hR.c0; rw [← HW0.out] at c0; have HR := Lib.hid hR; clear hR)
  clear HSP j3 h35
  have n1 : (1 : Int) ≤ (n : Int) := by omega
  have n0 : (0 : Int) < (n : Int) := by omega
  have n00 : 0 < n := by omega
  go_cut [45] from 21 to 44 (fun b wx => b = .bool false ∧ w3 = wx)
  case first =>
    by_cases hn1' : n = 1
    case neg =>
      have m1 : ¬ (n : Int) = 1 := by omega
      have b1 : ((n : Int) == 1) = false := by simpa using m1
      go_wp2
      go_meet
      exact ⟨rfl, rfl⟩
    case pos =>
      have HN1 := Lib.hid hn1'
      have m1 : (n : Int) = 1 := by omega
      by_cases hv1 : 1 < w0.size
      case neg =>
        have m2 : ¬ (1 : Int) < (w0.size : Int) := by omega
        have b1 : ((n : Int) == 1) = true := by simpa using m1
        clear hn1'
        go_wp2
        go_meet
        exact ⟨rfl, rfl⟩
      case pos =>
        have m2 : (1 : Int) < (w0.size : Int) := by omega
        obtain ⟨z, hz⟩ : ∃ z, w0.size = z + 1 := ⟨w0.size - 1, by omega⟩
        have hiz : z < w0.size := by omega
        have i2 : (0 : Int) ≤ (z : Int) := by omega
        have i3 : (z : Int) < (w0.size : Int) := by omega
        have i4 : (z : Int) ≤ (w0.size : Int) := by omega
        have u1 : IntKind.i64.wrap ((w0.size : Int) - 1) = (z : Int) := by rw [IntKind.wrap_i64]; have := HWS.out; omega
        by_cases hc : (w0[z]'hiz) = 58
        case neg =>
          have m3 : ¬ ((w0[z]'hiz).toNat : Int) = 58 := fun e => hc (UInt8.toNat_inj.1 (by rw [show (58 : UInt8).toNat = 58 from rfl]; omega))
          have b3 : (((w0[z]'hiz).toNat : Int) == 58) = false := by simpa using m3
          have b1 : ((n : Int) == 1) = true := by simpa using m1
          clear hz hn1'
          go_wp2
          go_meet
          exact ⟨rfl, rfl⟩
        case pos =>
          have m3 : ((w0[z]'hiz).toNat : Int) = 58 := by rw [hc]; rfl
          have hno := HLAB.out hn1' hv1 z hz hc
          have HLT := Lib.hid (fun (w9 : World) => by have := Am.rletters_any (w0.extract 0 z) (by have := HWS.out; simp; omega) w9; rw [hno] at this; exact this)
          have b3 : (((w0[z]'hiz).toNat : Int) == 58) = true := by simpa using m3
          have b1 : ((n : Int) == 1) = true := by simpa using m1
          clear hz hc hno hn1'
          go_wp2_with (go_at_call 31; (with_reducible refine (HLT.out _).mono ?_); rintro e w4 ⟨rfl, rfl⟩)
          go_meet
          exact ⟨rfl, rfl⟩
  case rest =>
    obtain ⟨rfl, rfl⟩ := hcut
    go_upto_region 7 with (fail)
    go_cut [61] from 53 to 60 (fun b wx => b = .bool false ∧ w3 = wx)
    case first =>
      by_cases he : w0.data.toList = [98, 121, 116, 101]
      case neg =>
        have m3 := Am.str_neq he
        clear he
        go_wp2
        go_meet
        exact ⟨rfl, rfl⟩
      case pos =>
        have m3 := Am.str_eq he
        have m4 : ¬ (n : Int) = 2 := by have := HB.out he; omega
        have b4 : ((n : Int) == 2) = false := by simpa using m4
        clear he
        go_wp2
        go_meet
        exact ⟨rfl, rfl⟩
    case rest =>
      obtain ⟨rfl, rfl⟩ := hcut
      go_upto_region 10 with (fail)
      go_cut [80] from 72 to 79 (fun b wx => b = .bool false ∧ w3 = wx)
      case first =>
        by_cases he : w0.data.toList = [116, 119, 111]
        case neg =>
          have m3 := Am.str_neq he
          clear he
          go_wp2
          go_meet
          exact ⟨rfl, rfl⟩
        case pos =>
          have m3 := Am.str_eq he
          have m4 : ¬ (n : Int) = 2 := by have := HT.out he; omega
          have b4 : ((n : Int) == 2) = false := by simpa using m4
          clear he
          go_wp2
          go_meet
          exact ⟨rfl, rfl⟩
      case rest =>
        obtain ⟨rfl, rfl⟩ := hcut
        have HB3 := Lib.hid (show w.heap.size < w3.heap.size from by have := HR.out.lt; omega)
        go_wp2
        go_loopw [6] (fun y wr => ∃ k : Nat, y = .int .i64 k ∧ k ≤ 16 ∧ Hid (∀ j, j < k → nmL j ≠ w0) ∧ Hid (Below w3.heap.size w3 wr)) (fun y _ => 16 - (Go.Lib.intOf y).toNat)
        case atStart => exact ⟨0, rfl, by omega, Lib.hid (fun j hj => by omega), Lib.hid (Below.refl _ _)⟩
        case round =>
          obtain ⟨k, rfl, hk, HJ, HBW⟩ := hrel
          by_cases hin : k < 16
          · have i1 : (k : Int) < 16 := by omega
            have i0 : (0 : Int) ≤ (k : Int) := by omega
            have cr : wr.cell? ⟨g, off, none⟩ = some (.string w0) := (HBW.out.cell (p := ⟨g, off, none⟩) (by show g < w3.heap.size; have := HR.out.lt; omega)).trans c0
            have kc := Lib.hid (fun d os => cell_regrown cr d os)
            have HNM := Lib.hid (fun d os => (rname_any (k : Int) i0 (grow (redrawn wr d) os)))
            rw [Int.toNat_natCast] at HNM
            by_cases he : nmL k = w0
            · have HSK := Lib.hid (HK.out k hin he)
              have kk := fun d os => kc.out d os
              have HKN := Lib.hid hin
              rw [he] at HNM
              go_wp2
              refine wp_region_quiet_below (by kernel_rfl) (by kernel_rfl) ?_
              repeat (quiet_step ((go_at_call 34; with_reducible exact Calls.regrown_of ((HNM.out _ _).mono fun _ _ ⟨h1, h2⟩ => ⟨h1, below_of_only h2 (Nat.le_refl _) (by simp)⟩))))
              refine wpQuiet_nil ?_
              rintro _ ⟨⟨dq, osq⟩, rfl⟩
              have hb2 := HBW.out.trans ((below_regrown wr dq osq).mono HBW.out.size)
              generalize grow (redrawn wr dq) osq = w5 at hb2 ⊢
              have HB5 := Lib.hid hb2
              have HIN := Lib.hid (Am.instr20_any k HKN.out (some ⟨g, off, none⟩) n c (v :: r) HN.out hn1 HALL.out w5 (HR.out.row.below hb2 HR.out.row.lt))
              clear hb2 kk kc HNM cr HK HZ HJ
              go_wp2_with (go_at_call 35; (with_reducible refine HIN.out.mono ?_); rintro e w6 ⟨bel, R, E, wrr, rfl, HM, HLI⟩; have HM6 := Lib.hid HM; have HL6 := Lib.hid HLI; have B6 := Lib.hid (HR.out.bel.trans ((HB5.out.trans (bel.mono HB5.out.size)).mono HR.out.bel.size)); have P6 := (HR.out.blk.below HB5.out HB3.out).below bel (by have := HB5.out.size; have := HB3.out; omega); have HP6 := Lib.hid P6; obtain ⟨b0, b1, b2, b3, b4, f0, f1, f2, f3, f4⟩ := Am.box5c P6; clear P6 HM HLI bel)
              obtain ⟨WX, hWX, Q, BX, MX, _⟩ := Am.res_put (lb := ⟨R.lb.toArray⟩) (nm := ⟨R.nm.toArray⟩) (wr := wrr) HP6.out B6.out (HM6.out.mono (by have := HB5.out.size; have := HB3.out; omega))
              rw [← hWX]
              clear hWX
              obtain ⟨q0, q1, q2, q3, q4, _⟩ := Am.box5c Q
              exact bodyPost_ret (v := .agg #[.string ⟨R.lb.toArray⟩, .slice E.1.1 R.ns.length E.1.2, .slice E.2.1 R.ss.length E.2.2, .string ⟨R.nm.toArray⟩, .bool wrr]) (by simp [results, Tryd.results19, go_sem, q0, q1, q2, q3, q4]) rfl (by rw [HSK.out]; exact Am.RdP.res MX BX (Am.LinR.of HL6.out))
            · have hne := str_ne19 he
              have HJJ := Lib.hid (show ∀ j, j < k + 1 → nmL j ≠ w0 from fun j hj => by
                by_cases e : j = k
                · rw [e]; exact he
                · exact HJ.out j (by omega))
              have HK1 := Lib.hid (show k + 1 ≤ 16 from hin)
              have kk := fun d os => kc.out d os
              clear he HJ
              generalize nmL k = nk at *
              go_wp2
              refine wp_region_quiet_below (by kernel_rfl) (by kernel_rfl) ?_
              repeat (quiet_step ((go_at_call 34; with_reducible exact Calls.regrown_of ((HNM.out _ _).mono fun _ _ ⟨h1, h2⟩ => ⟨h1, below_of_only h2 (Nat.le_refl _) (by simp)⟩))))
              refine wpQuiet_nil ?_
              rintro _ ⟨⟨dq, osq⟩, rfl⟩
              have hb2 := HBW.out.trans ((below_regrown wr dq osq).mono HBW.out.size)
              generalize grow (redrawn wr dq) osq = w5 at hb2 ⊢
              have HB5 := Lib.hid hb2
              clear hb2 kk kc HNM cr
              go_wp2
              go_roundw
              case rel => exact ⟨k + 1, by go_num, HK1.out, HJJ, HB5⟩
              case measure =>
                have := HK1.out
                simp [Go.Lib.intOf]
                omega
          · obtain rfl : k = 16 := by omega
            have HS := Lib.hid (HZ.out HJ.out)
            have hbb := HR.out.bel.trans (HBW.out.mono HR.out.bel.size)
            have hpp := HR.out.blk.below HBW.out HB3.out
            obtain ⟨WX, hWX, Q, R⟩ := Am.res_nil [] true (⟨3, [], []⟩ : Am.Ln) hpp hbb (.inr (.inr (.inr ⟨rfl, rfl⟩)))
            obtain ⟨b0, b1, b2, b3, b4, f0, f1, f2, f3, f4⟩ := Am.box5c hpp
            obtain ⟨q0, q1, q2, q3, q4, _⟩ := Am.box5c Q
            have HRR := Lib.hid R
            clear hbb hpp Q R HK HZ HJ
            go_wp2
            rw [← hWX]
            clear hWX
            exact bodyPost_ret (v := .agg #[.string ⟨#[]⟩, .slice none 0 0, .slice none 0 0, .string ⟨#[]⟩, .bool true]) (by simp [results, Tryd.results19, go_sem, q0, q1, q2, q3, q4]) rfl (by rw [HS.out]; exact HRR.out)
theorem Am.rread_any (s : ByteArray) (hs : s.size ≤ 100000) (w : World) : Calls Tryd.prog 19 #[.string s] w (Am.RdP w (Am.line s.data.toList)) := by
  by_cases hp : 0 < s.size ∧ s.data.toList.head? ≠ some 35
  case neg => exact Am.rread_pass s w hp
  obtain ⟨h0, hh⟩ := hp
  by_cases hlab : s.data.toList.getLast? = some 58 ∧ Am.isName s.data.toList.dropLast = true
  · exact Am.rread_label s hs w hlab.1 hlab.2
  have h35 : ¬ ((s[0]'h0).toNat : Int) = 35 := fun e => hh (by
    rw [Am.head_of h0]
    congr 1
    exact UInt8.toNat_inj.1 (by rw [show (35 : UInt8).toNat = 35 from rfl]; omega))
  have hne : s.data.toList ≠ [] := fun e => by
    have := Am.len s
    rw [e] at this
    simp at this
    omega
  have hln := Am.rline_sen hne hh hlab
  obtain ⟨v, r, hL⟩ := Am.spl_cons 32 s.data.toList
  rw [hL] at hln
  by_cases hb : v = [98, 121, 116, 101] ∧ r.length = 1
  · obtain ⟨rfl, hr⟩ := hb
    obtain ⟨x, rfl⟩ : ∃ x, r = [x] := by
      match r, hr with
      | [x], _ => exact ⟨x, rfl⟩
    exact Am.rread_byte s hs w x hL h0 h35 hln
  by_cases ht : v = [116, 119, 111] ∧ r.length = 1
  · obtain ⟨rfl, hr⟩ := ht
    obtain ⟨x, rfl⟩ : ∃ x, r = [x] := by
      match r, hr with
      | [x], _ => exact ⟨x, rfl⟩
    exact Am.rread_two s hs w x hL h0 h35 hln
  rw [hln]
  exact Am.rread_rest s hs w v r hL h0 h35 hlab hb ht
end Go.Proofs.YtldbhcbmcogmfaaDoor

/- What the document's lines make: labels, names that wait, the program; the same as1 the program's reader. No program is spoken of here. -/
namespace Go.Proofs.YtldbhcbmcogmfaaDoor
open Go.RowKit Go.Lib
set_option linter.unusedVariables false
set_option maxRecDepth 8000

def Am.bs (r : Am.RL) : List UInt8 := Am.flat r.ns r.ss
def Am.Good (r : Am.RL) : Prop := Am.Fit r ∧ (r.nm ≠ [] → r.ss.getLast? = some 2)
theorem Am.flat_len : ∀ (ns ss : List Int), ns.length = ss.length → Am.Szs ss → ((Am.flat ns ss).length : Int) = ss.sum
  | [], [], _, _ => rfl
  | [], s :: ss, h, _ => by simp at h
  | n :: ns, [], h, _ => by simp at h
  | n :: ns, s :: ss, h, hz => by
    have ih := Am.flat_len ns ss (by simpa using h) (fun x hx => hz x (List.mem_cons_of_mem _ hx))
    have hs := hz s (by simp)
    unfold Am.flat
    rw [List.length_append, List.sum_cons, Int.natCast_add, ih]
    by_cases h1 : s = 1
    · rw [if_pos h1, h1]; simp
    · rw [if_neg h1]
      have : s = 2 := by omega
      rw [this]; simp
theorem Am.Good.len {r : Am.RL} (h : Am.Good r) : ((Am.bs r).length : Int) = r.ss.sum := Am.flat_len _ _ h.1.2.2 h.1.1
def Am.fl : List Am.RL → List UInt8
  | [] => []
  | r :: t => Am.bs r ++ Am.fl t
def Am.lbs : List Am.RL → Nat → List (List UInt8 × Nat)
  | [], _ => []
  | r :: t, n => (if r.lb = [] then [] else [(r.lb, n)]) ++ Am.lbs t (n + (Am.bs r).length)
def Am.wss : List Am.RL → Nat → Nat → List (Nat × List UInt8 × Nat)
  | [], _, _ => []
  | r :: t, i, n => (if r.nm = [] then [] else [(i, r.nm, n + (Am.bs r).length - 2)]) ++ Am.wss t (i + 1) (n + (Am.bs r).length)
def Am.stL (L : List Am.RL) : Am.St := ⟨Am.fl L, Am.lbs L 0, Am.wss L 1 0⟩
theorem Am.fl_snoc (r : Am.RL) : ∀ L, Am.fl (L ++ [r]) = Am.fl L ++ Am.bs r
  | [] => by simp [Am.fl]
  | q :: L => by rw [List.cons_append, Am.fl, Am.fl_snoc r L, Am.fl, List.append_assoc]
theorem Am.lbs_snoc (r : Am.RL) : ∀ (L : List Am.RL) (n : Nat), Am.lbs (L ++ [r]) n = Am.lbs L n ++ (if r.lb = [] then [] else [(r.lb, n + (Am.fl L).length)])
  | [], n => by simp [Am.lbs, Am.fl]
  | q :: L, n => by
    rw [List.cons_append, Am.lbs, Am.lbs_snoc r L, Am.lbs, Am.fl, List.append_assoc, List.length_append, Nat.add_assoc]
theorem Am.wss_snoc (r : Am.RL) : ∀ (L : List Am.RL) (i n : Nat), Am.wss (L ++ [r]) i n = Am.wss L i n ++ (if r.nm = [] then [] else [(i + L.length, r.nm, n + (Am.fl L).length + (Am.bs r).length - 2)])
  | [], i, n => by simp [Am.wss, Am.fl]
  | q :: L, i, n => by
    rw [List.cons_append, Am.wss, Am.wss_snoc r L, Am.wss, Am.fl, List.append_assoc, List.length_append, List.length_cons, show i + 1 + L.length = i + (L.length + 1) from by omega, ← Nat.add_assoc n]
theorem Am.look_cons (x : List UInt8 × Nat) (l : List (List UInt8 × Nat)) (nm : List UInt8) : Am.look (x :: l) nm = if x.1 = nm then some x.2 else Am.look l nm := by
  unfold Am.look
  by_cases h : x.1 = nm
  · rw [if_pos h, List.find?_cons_of_pos (by simpa using h)]
    rfl
  · rw [if_neg h, List.find?_cons_of_neg (by simpa using h)]
theorem Am.plc_look {nm : List UInt8} (hnm : nm ≠ []) : ∀ (L : List Am.RL) (n : Nat), (∀ q ∈ L, Am.Good q) → Am.plc L nm (n : Int) = Am.optZ (Am.look (Am.lbs L n) nm)
  | [], n, _ => rfl
  | r :: t, n, hL => by
    have ih := Am.plc_look hnm t (n + (Am.bs r).length) (fun q hq => hL q (List.mem_cons_of_mem _ hq))
    have hlen := (hL r (by simp)).len
    unfold Am.plc Am.lbs
    by_cases h : r.lb = nm
    · rw [if_pos h, if_neg (by rw [h]; exact hnm), List.singleton_append, Am.look_cons, if_pos h]
      rfl
    · rw [if_neg h, show (n : Int) + r.ss.sum = ((n + (Am.bs r).length : Nat) : Int) from by omega, ih]
      by_cases he : r.lb = []
      · rw [if_pos he, List.nil_append]
      · rw [if_neg he, List.singleton_append, Am.look_cons, if_neg h]
theorem Am.lnO_kind (o : Option (List UInt8 × List UInt8)) : (Am.lnO o).kind ≠ 1 := by
  cases o with
  | none => exact fun e => by cases e
  | some v => exact fun e => by cases e
theorem Am.sen_kind (v : List UInt8) (r : List (List UInt8)) : (Am.sen v r).kind ≠ 1 := by
  unfold Am.sen
  split
  · exact Am.lnO_kind _
  · split
    · exact Am.lnO_kind _
    · split
      · exact Am.lnO_kind _
      · exact fun e => by cases e
theorem Am.line_kind {t : List UInt8} (h : (Am.line t).kind = 1) : (Am.line t).nm ≠ [] := by
  unfold Am.line at h ⊢
  split
  · rename_i q
    rw [if_pos q] at h
    cases h
  · rename_i q
    rw [if_neg q] at h
    split
    · rename_i q2
      rw [if_pos q2] at h
      split
      · rename_i q3
        intro e
        have := (Am.zname_len q3).1
        have e' : t.dropLast = [] := e
        rw [e'] at this
        simp at this
      · rename_i q3
        rw [if_neg q3] at h
        cases h
    · rename_i q2
      rw [if_neg q2] at h
      exact absurd h (Am.sen_kind _ _)
theorem Am.bs_nil (lb nm : List UInt8) : Am.bs ⟨lb, nm, [], []⟩ = [] := rfl
theorem Am.good_nil (lb : List UInt8) : Am.Good ⟨lb, [], [], []⟩ := ⟨⟨(fun x hx => by cases (show x ∈ ([] : List Int) from hx)), Nat.zero_le _, rfl⟩, fun h => absurd rfl h⟩
/-- What the next line makes, of both. -/
theorem Am.one_step {l : Am.Ln} {r : Am.RL} {wr : Bool} {L : List Am.RL} (h : Am.LinR l r wr) (hk : l.kind = 1 → l.nm ≠ []) (hlim : (Am.fl L).length ≤ 1024) :
    (wr = true ∧ (Am.one (L.length + 1) l (Am.stL L)).1 = 3) ∨ (wr = false ∧ Am.Good r ∧
      ((r.lb ≠ [] ∧ (Am.look (Am.lbs L 0) r.lb).isSome = true ∧ (Am.one (L.length + 1) l (Am.stL L)).1 = 14) ∨
       ((r.lb = [] ∨ Am.look (Am.lbs L 0) r.lb = none) ∧ ((1024 < (Am.fl L).length + (Am.bs r).length ∧ (Am.one (L.length + 1) l (Am.stL L)).1 = 4) ∨ ((Am.fl L).length + (Am.bs r).length ≤ 1024 ∧ Am.one (L.length + 1) l (Am.stL L) = (0, Am.stL (L ++ [r]))))))) := by
  rcases h with ⟨k0, rfl, rfl⟩ | ⟨k1, rfl, rfl⟩ | ⟨k2, hl⟩ | ⟨k3, rfl⟩
  · refine .inr ⟨rfl, Am.good_nil [], .inr ⟨.inl rfl, .inr ⟨by show (Am.fl L).length + 0 ≤ 1024; omega, ?_⟩⟩⟩
    unfold Am.one
    rw [if_pos k0]
    simp [Am.stL, Am.fl_snoc, Am.lbs_snoc, Am.wss_snoc, Am.rl0, Am.bs, Am.flat]
  · have hne := hk k1
    refine .inr ⟨rfl, Am.good_nil _, ?_⟩
    have e : Am.one (L.length + 1) l (Am.stL L) = if (Am.look (Am.lbs L 0) l.nm).isSome then (14, Am.stL L) else (0, ⟨Am.fl L, Am.lbs L 0 ++ [(l.nm, (Am.fl L).length)], Am.wss L 1 0⟩) := by
      unfold Am.one
      rw [if_neg (by omega), if_pos k1]
      rfl
    by_cases hs : (Am.look (Am.lbs L 0) l.nm).isSome = true
    · rw [if_pos hs] at e
      exact .inl ⟨hne, hs, by rw [e]⟩
    · rw [if_neg hs] at e
      refine .inr ⟨.inr (by simpa using hs), .inr ⟨by show (Am.fl L).length + 0 ≤ 1024; omega, ?_⟩⟩
      rw [e]
      unfold Am.stL
      rw [Am.fl_snoc, Am.lbs_snoc, Am.wss_snoc, if_neg hne, if_pos rfl]
      simp [Am.bs_nil]
  · rcases hl with ⟨h, _⟩ | ⟨v, hv, rfl, hlb, hnm, hfit, hfl, hlast⟩
    · cases h
    injection hv with hv
    subst hv
    have hb : Am.bs r = l.bs := hfl
    refine .inr ⟨rfl, ⟨hfit, by rw [hnm]; exact hlast⟩, .inr ⟨.inl hlb, ?_⟩⟩
    rw [hb]
    have e : Am.one (L.length + 1) l (Am.stL L) = if 1024 < (Am.fl L).length + l.bs.length then (4, Am.stL L) else (0, ⟨Am.fl L ++ l.bs, Am.lbs L 0, if l.nm = [] then Am.wss L 1 0 else Am.wss L 1 0 ++ [(L.length + 1, l.nm, (Am.fl L).length + l.bs.length - 2)]⟩) := by
      unfold Am.one
      rw [if_neg (by omega), if_neg (by omega), if_pos k2]
      rfl
    by_cases hs : 1024 < (Am.fl L).length + l.bs.length
    · rw [if_pos hs] at e
      exact .inl ⟨hs, by rw [e]⟩
    · rw [if_neg hs] at e
      refine .inr ⟨by omega, ?_⟩
      rw [e]
      unfold Am.stL
      rw [Am.fl_snoc, Am.lbs_snoc, Am.wss_snoc, if_pos hlb, hb, hnm, List.append_nil]
      by_cases hn : l.nm = []
      · rw [if_pos hn, if_pos hn, List.append_nil]
      · rw [if_neg hn, if_neg hn, Nat.zero_add, Nat.add_comm 1]
  · refine .inl ⟨rfl, ?_⟩
    unfold Am.one
    rw [if_neg (by omega), if_neg (by omega), if_neg (by omega)]
/-- The first line whose name has no place; 0: none. -/
def Am.chk (lb : List (List UInt8 × Nat)) : List Am.RL → Nat → Nat
  | [], _ => 0
  | r :: t, i => if r.nm ≠ [] ∧ Am.look lb r.nm = none then i else Am.chk lb t (i + 1)
theorem Am.ful_chk (lb : List (List UInt8 × Nat)) : ∀ (L : List Am.RL) (i n : Nat) (p : List UInt8), 1 ≤ i → (Am.ful lb (Am.wss L i n) p).1 = (if Am.chk lb L i = 0 then 0 else 14) ∧ (Am.ful lb (Am.wss L i n) p).2.1 = Am.chk lb L i
  | [], i, n, p, _ => ⟨rfl, rfl⟩
  | r :: t, i, n, p, hi => by
    have e : Am.chk lb (r :: t) i = if r.nm ≠ [] ∧ Am.look lb r.nm = none then i else Am.chk lb t (i + 1) := rfl
    have ih := fun p => Am.ful_chk lb t (i + 1) (n + (Am.bs r).length) p (by omega)
    unfold Am.wss
    by_cases hn : r.nm = []
    · rw [if_neg (fun e => e.1 hn)] at e
      rw [if_pos hn, List.nil_append, e]
      exact ih p
    · rw [if_neg hn, List.singleton_append, Am.ful]
      cases hl : Am.look lb r.nm with
      | none =>
        rw [if_pos ⟨hn, hl⟩] at e
        rw [e, if_neg (by omega)]
        exact ⟨rfl, rfl⟩
      | some a =>
        rw [if_neg (fun e => by rw [hl] at e; cases e.2)] at e
        rw [e]
        exact ih _
/-- The program, line by line. -/
def Am.nsP (lb : List (List UInt8 × Nat)) (r : Am.RL) : List Int := if r.nm = [] then r.ns else r.ns.dropLast ++ [Am.optZ (Am.look lb r.nm)]
def Am.asmB (lb : List (List UInt8 × Nat)) : List Am.RL → List UInt8
  | [] => []
  | r :: t => Am.flat (Am.nsP lb r) r.ss ++ Am.asmB lb t
theorem Am.flat_last : ∀ (ns ss : List Int), ns.length = ss.length → ss.getLast? = some 2 → ∃ q, (∀ a : Int, Am.flat (ns.dropLast ++ [a]) ss = q ++ [UInt8.ofNat (a % 256).toNat, UInt8.ofNat (a / 256 % 256).toNat]) ∧ ∃ a, ns = ns.dropLast ++ [a]
  | [], [], _, h => by cases h
  | [], s :: ss, h, _ => by simp at h
  | n :: ns, [], h, _ => by simp at h
  | [n], [s], _, h => by
    simp at h
    subst h
    exact ⟨[], fun a => rfl, n, rfl⟩
  | [n], s :: s' :: ss, h, _ => by simp at h
  | n :: n' :: ns, [s], h, _ => by simp at h
  | n :: n' :: ns, s :: s' :: ss, h, hl => by
    obtain ⟨q, hq, a, ha⟩ := Am.flat_last (n' :: ns) (s' :: ss) (by simpa using h) (by simpa using hl)
    refine ⟨(if s = 1 then [UInt8.ofNat (n % 256).toNat] else [UInt8.ofNat (n % 256).toNat, UInt8.ofNat (n / 256 % 256).toNat]) ++ q, fun b => ?_, a, ?_⟩
    · have := hq b
      rw [show (n :: n' :: ns).dropLast ++ [b] = n :: ((n' :: ns).dropLast ++ [b]) from rfl, Am.flat, this, List.append_assoc]
    · show n :: n' :: ns = n :: (n' :: ns).dropLast ++ [a]
      rw [List.cons_append, ← ha]
theorem Am.put2_at (p r : List UInt8) (x y : UInt8) (a : Nat) : Am.put2 (p ++ x :: y :: r) p.length a = p ++ UInt8.ofNat (a % 256) :: UInt8.ofNat (a / 256 % 256) :: r := by
  unfold Am.put2
  rw [List.set_append_right _ _ (Nat.le_refl _), Nat.sub_self, List.set_cons_zero, List.set_append_right _ _ (by omega), show p.length + 1 - p.length = 1 from by omega, List.set_cons_succ, List.set_cons_zero]
theorem Am.ful_asm (lb : List (List UInt8 × Nat)) : ∀ (L : List Am.RL) (i : Nat) (pre : List UInt8), 1 ≤ i → (∀ q ∈ L, Am.Good q) → Am.chk lb L i = 0 → (Am.ful lb (Am.wss L i pre.length) (pre ++ Am.fl L)).2.2 = pre ++ Am.asmB lb L
  | [], i, pre, _, _, _ => rfl
  | r :: t, i, pre, hi, hL, hc => by
    have hg := hL r (by simp)
    have hL' : ∀ q ∈ t, Am.Good q := fun q hq => hL q (List.mem_cons_of_mem _ hq)
    unfold Am.chk at hc
    unfold Am.wss Am.asmB Am.nsP Am.fl
    by_cases hn : r.nm = []
    · rw [if_neg (fun e => e.1 hn)] at hc
      have ih := Am.ful_asm lb t (i + 1) (pre ++ Am.bs r) (by omega) hL' hc
      rw [List.length_append, List.append_assoc, List.append_assoc] at ih
      rw [if_pos hn, if_pos hn, List.nil_append]
      exact ih
    · rw [if_neg hn, if_neg hn, List.singleton_append, Am.ful]
      cases hl : Am.look lb r.nm with
      | none =>
        rw [if_pos ⟨hn, hl⟩] at hc
        omega
      | some a =>
        rw [if_neg (fun e => by rw [hl] at e; cases e.2)] at hc
        simp only
        obtain ⟨q, hq, b, hb⟩ := Am.flat_last r.ns r.ss hg.1.2.2 (hg.2 hn)
        have e0 : Am.bs r = q ++ [UInt8.ofNat (b % 256).toNat, UInt8.ofNat (b / 256 % 256).toNat] := by
          unfold Am.bs
          rw [hb, show (r.ns.dropLast ++ [b]).dropLast = r.ns.dropLast from List.dropLast_concat] at *
          exact hq b
        have e1 : Am.flat (r.ns.dropLast ++ [Am.optZ (some a)]) r.ss = q ++ [UInt8.ofNat (a % 256), UInt8.ofNat (a / 256 % 256)] := by
          rw [hq]
          show q ++ [UInt8.ofNat ((a : Int) % 256).toNat, UInt8.ofNat ((a : Int) / 256 % 256).toNat] = _
          rw [show ((a : Int) % 256).toNat = a % 256 from by omega, show ((a : Int) / 256 % 256).toNat = a / 256 % 256 from by omega]
        have hlen : pre.length + (Am.bs r).length - 2 = (pre ++ q).length := by
          rw [e0, List.length_append, List.length_append]
          simp
          omega
        have hp : pre ++ (Am.bs r ++ Am.fl t) = (pre ++ q) ++ UInt8.ofNat (b % 256).toNat :: UInt8.ofNat (b / 256 % 256).toNat :: Am.fl t := by
          rw [e0]
          simp
        rw [hlen, hp, Am.put2_at, e1]
        have ih := Am.ful_asm lb t (i + 1) (pre ++ q ++ [UInt8.ofNat (a % 256), UInt8.ofNat (a / 256 % 256)]) (by omega) hL' hc
        have hl2 : (pre ++ q ++ [UInt8.ofNat (a % 256), UInt8.ofNat (a / 256 % 256)]).length = pre.length + (Am.bs r).length := by
          rw [e0]
          simp only [List.length_append, List.length_cons, List.length_nil]
          omega
        rw [hl2] at ih
        simpa [List.append_assoc] using ih
end Go.Proofs.YtldbhcbmcogmfaaDoor

/- The document's lines in a row of the call's own: one more. -/
namespace Go.Proofs.YtldbhcbmcogmfaaDoor
open Go.RowKit Go.Lib
set_option linter.unusedVariables false
set_option maxRecDepth 8000

section
variable {s : Nat} {w w' : World} {v : Value} {n : Nat} {xs : List Value}
/-- append(v, x), v a slice of the call's own. -/
theorem Am.run_push {P : Program} (w : World) (t e ty : TypeId) (i : TypeInfo) (z : Value) (bytes : Nat) (ht : P.underlying t = some (.slice e)) (hi : P.info? e = some i) (hz : i.zero = some z) (hs : i.size = s) (hby : i.bytes = bytes) (hb16 : bytes ≤ 128) (hzs : z.cells.size = s)
    (v : Value) (n : Nat) (l : List Value) (h : RowZ s w v n l) (h1 : ∀ u ∈ l, u.oneCell' = true) (xs : Value) (x : List Value) (hx : Src P s t xs 1 x w) (hn : n ≤ 1000000) :
    ∃ v' w', (Builtin.append_ #[t, t] ty #[v, xs]).run P w = .ok v' w' ∧ RowZ s w' v' (n + 1) (l ++ x) ∧ w.grownBy w' v.ownBlock ∧ (v'.ownBlock = v.ownBlock ∨ v'.ownBlock = some w.heap.size) := by
  have hxl : x.length = s := by have := hx.newsLen; omega
  have hlx : (l ++ x).length = (n + 1) * s := by rw [List.length_append, h.1, hxl, Nat.add_mul, Nat.one_mul]
  have hbm : (n + 1) * bytes ≤ 140737488355328 := by
    have : (n + 1) * bytes ≤ 1000001 * 128 := Nat.mul_le_mul (by omega) hb16
    omega
  have hsrc : Src P i.size t xs 1 x w := by rw [hs]; exact hx
  have grown : ∀ (base : Option Addr) (cap : Nat), v = .slice base n cap → cap < n + 1 → ∃ v' w', (Builtin.append_ #[t, t] ty #[v, xs]).run P w = .ok v' w' ∧ RowZ s w' v' (n + 1) (l ++ x) ∧ w.grownBy w' v.ownBlock ∧ (v'.ownBlock = v.ownBlock ∨ v'.ownBlock = some w.heap.size) := by
    intro base cap hv hcap
    have hold := ((h.drewN 1).src (P := P) t e ht h1).cells
    have hm : n + 1 ≤ maxLen := by unfold maxLen; omega
    have hge := grownCap_ge w (n + 1) cap e
    have hcm := grownCap_le_maxLen w (n + 1) cap e hm
    rw [hv] at hold
    have hr := run_append_grow_src (P := P) w t t ty e i z ht hi hz base n cap l (by rw [hs]; exact hold) xs 1 x hsrc hcap (by omega) (by rw [hby]; exact growslice_fits hcap hbm)
    rw [hv]
    refine ⟨_, _, hr, ?_, ⟨rfl, rfl, rfl, by simp, fun k hk _ => Below.heap_alloc w.drew _ k hk⟩, .inr rfl⟩
    refine RowZ.new w.drew _ e _ hlx ?_ hge hcm (fun j u hu => ?_)
    · simp only [Array.size_append, List.size_toArray, size_zeroCells, hzs, hlx]
      rw [← Nat.add_mul]
      congr 1
      omega
    · have hj := (List.getElem?_eq_some_iff.1 hu).1
      rw [Array.getElem?_append_left (by simpa using hj)]
      simpa using hu
  rcases h with ⟨hl, ⟨rfl, rfl⟩ | ⟨g, off, cap, rfl, h2, h3, h4, h5, h6⟩⟩
  · exact grown none 0 rfl (by omega)
  · by_cases hroom : n + 1 ≤ cap
    · have hcs : n * s + s ≤ cap * s := by
        have := Nat.mul_le_mul_right s hroom
        rw [Nat.add_mul, Nat.one_mul] at this
        exact this
      have hr := run_append_room_src (P := P) w t t ty e i ht hi g off n cap xs 1 x hsrc hroom (by
        intro j hj
        rw [hs, Nat.add_assoc]
        exact (h5 (n * s + j) (by omega)).1) (by
        intro j hj
        rw [hs, Nat.add_assoc]
        exact (h5 (n * s + j) (by omega)).2)
      rw [hs] at hr
      have hsome : ∀ k, k < x.length → (w.cell? ⟨g, off + n * s + k, none⟩).isSome = true := fun k hk => by
        rw [Nat.add_assoc]
        exact (h5 (n * s + k) (by omega)).1
      refine ⟨_, _, hr, ⟨hlx, .inr ⟨g, off, cap, rfl, hroom, h3, ?_, ?_, ?_⟩⟩, only_cells _ _ _ _, .inl rfl⟩
      · rw [(setCells_at g x (off + n * s) w).2.2.2.1]
        exact h4
      · intro j hj
        rw [World.frozen?_setCells]
        refine ⟨?_, (h5 j hj).2⟩
        by_cases e1 : n * s ≤ j ∧ j < n * s + s
        · have := World.cell?_setCells_in g x (off + n * s) w hsome (j - n * s) (by omega)
          rw [show off + n * s + (j - n * s) = off + j by omega] at this
          rw [this]
          rfl
        · rw [World.cell?_setCells_out g x (off + n * s) w _ (by intro _ _; simp; omega)]
          exact (h5 j hj).1
      · intro j u hu
        by_cases e1 : j < n * s
        · rw [List.getElem?_append_left (by omega)] at hu
          rw [World.cell?_setCells_out g x (off + n * s) w _ (by intro _ _; simp; omega)]
          exact h6 j u hu
        · have hj := (List.getElem?_eq_some_iff.1 hu).1
          rw [List.length_append, hl] at hj
          rw [List.getElem?_append_right (by omega), hl] at hu
          have := World.cell?_setCells_in g x (off + n * s) w hsome (j - n * s) (by omega)
          rw [show off + n * s + (j - n * s) = off + j by omega] at this
          rw [this, ← List.getElem?_eq_getElem]
          exact hu
    · exact grown _ cap rfl (by omega)
end
theorem Am.line_info : (Tryd.prog.info? 35).map (fun i => (i.zero, i.size, i.bytes)) = some (some (.agg #[.string ⟨#[]⟩, .slice none 0 0, .slice none 0 0, .string ⟨#[]⟩, .bool false]), 5, 88) := by kernel_rfl
theorem Am.rlC_one (r : Am.RL) (e : Am.SC × Am.SC) : ∀ u ∈ Am.rlC r e, u.oneCell' = true := by
  intro u hu
  simp [Am.rlC] at hu
  rcases hu with rfl | rfl | rfl | rfl | rfl <;> rfl
theorem Am.rlL_one (L : List Am.RL) (E : Nat → Am.SC × Am.SC) : ∀ u ∈ Am.rlL L E, u.oneCell' = true := by
  intro u hu
  simp only [Am.rlL, List.mem_flatMap] at hu
  obtain ⟨i, _, h⟩ := hu
  exact Am.rlC_one _ _ u h
def Am.updE (E : Nat → Am.SC × Am.SC) (n : Nat) (e : Am.SC × Am.SC) : Nat → Am.SC × Am.SC := fun i => if i = n then e else E i
theorem Am.getD_old {L : List Am.RL} {r : Am.RL} {i : Nat} (h : i < L.length) : (L ++ [r]).getD i Am.rl0 = L.getD i Am.rl0 := by
  simp [List.getD, List.getElem?_append_left h]
theorem Am.getD_new {L : List Am.RL} {r : Am.RL} : (L ++ [r]).getD L.length Am.rl0 = r := by
  simp [List.getD]
theorem Am.rlL_snoc (L : List Am.RL) (E : Nat → Am.SC × Am.SC) (r : Am.RL) (e : Am.SC × Am.SC) : Am.rlL (L ++ [r]) (Am.updE E L.length e) = Am.rlL L E ++ Am.rlC r e := by
  unfold Am.rlL
  rw [List.length_append, List.length_singleton, List.range_succ, List.flatMap_append]
  congr 1
  · rw [List.flatMap_def, List.flatMap_def]
    congr 1
    apply List.map_congr_left
    intro i hi
    have hi' : i < L.length := by simpa using hi
    rw [Am.getD_old hi']
    unfold Am.updE
    rw [if_neg (by omega)]
  · simp only [List.flatMap_cons, List.flatMap_nil, List.append_nil]
    rw [Am.getD_new]
    unfold Am.updE
    rw [if_pos rfl]
theorem Am.ls_push {W : World} {B : Nat} {A : Option Addr} {c : Nat} {L : List Am.RL} {E : Nat → Am.SC × Am.SC} {r : Am.RL} {e : Am.SC × Am.SC} {g : Nat} (h : Am.LsE W B (.slice A L.length c) L E) (hB : B ≤ W.heap.size) (hr : Am.Fit r)
    (hm : Am.LnM W B (.slice e.1.1 r.ns.length e.1.2) (.slice e.2.1 r.ss.length e.2.2) r.ns r.ss) (hne : ∀ k, (Value.slice A L.length c).ownBlock = some k → (Value.slice e.1.1 r.ns.length e.1.2).ownBlock ≠ some k ∧ (Value.slice e.2.1 r.ss.length e.2.2).ownBlock ≠ some k)
    (hb : Blk W g 35 (Am.rlC r e).toArray) (hL : L.length ≤ 100000) :
    ∃ A' c' W', (Builtin.append_ #[30, 30] 30 #[.slice A L.length c, .slice (some ⟨g, 0, none⟩) 1 1]).run Tryd.prog W = .ok (.slice A' (L.length + 1) c') W' ∧ Am.LsV W' B (.slice A' (L.length + 1) c') (L ++ [r]) ∧ W.grownBy W' (Value.slice A L.length c).ownBlock ∧ ((Value.slice A' (L.length + 1) c').ownBlock = (Value.slice A L.length c).ownBlock ∨ (Value.slice A' (L.length + 1) c').ownBlock = some W.heap.size) := by
  obtain ⟨i0, hi0, hz0, hz1, hz2⟩ := Am.parts Am.line_info
  have hsrc : Src Tryd.prog 5 30 (.slice (some ⟨g, 0, none⟩) 1 1) 1 (Am.rlC r e) W := Src.ofSlice _ Tryd.underlying30 _ _ _ _ rfl (fun j u hu => by
    rw [addr_at, Nat.zero_add, hb.cell j]
    simpa using hu) (Am.rlC_one r e)
  obtain ⟨v', W', hk, hr3, hg', ho⟩ := Am.run_push (P := Tryd.prog) W 30 35 30 i0 _ 88 Tryd.underlying30 hi0 hz0 hz1 hz2 (by omega) rfl _ _ _ h.row (Am.rlL_one L E) _ _ hsrc (by omega)
  obtain ⟨A', c', rfl⟩ := hr3.form
  have hs := hg'.size
  have lift : ∀ (na sa : Value) (ns ss : List Int), Am.LnM W B na sa ns ss → (∀ k, (Value.slice A L.length c).ownBlock = some k → na.ownBlock ≠ some k ∧ sa.ownBlock ≠ some k) → Am.LnM W' B na sa ns ss ∧ ∀ k, (Value.slice A' (L.length + 1) c').ownBlock = some k → na.ownBlock ≠ some k ∧ sa.ownBlock ≠ some k := by
    intro na sa ns ss hm hne
    have dis : ∀ x : Value, (∀ k, (Value.slice A L.length c).ownBlock = some k → x.ownBlock ≠ some k) → x.ownBlock = none ∨ x.ownBlock ≠ (Value.slice A L.length c).ownBlock := fun x hx => by
      cases hq : x.ownBlock with
      | none => exact .inl rfl
      | some k => exact .inr (fun e => hx k e.symm hq)
    refine ⟨⟨hm.n.only hg' (dis na fun k hk => (hne k hk).1), hm.s.only hg' (dis sa fun k hk => (hne k hk).2), hm.nb, hm.sb, hm.ne⟩, fun k hk => ?_⟩
    rcases ho with o | o
    · exact hne k (o ▸ hk)
    · rw [o] at hk
      injection hk with hk
      subst hk
      exact ⟨fun e => by have := hm.n.lt _ e; omega, fun e => by have := hm.s.lt _ e; omega⟩
  refine ⟨A', c', W', hk, ⟨Am.updE E L.length e, ?_, fun k hk => ?_, fun i hi => ?_, fun i k hi hk => ?_⟩, hg', ho⟩
  · rw [Am.rlL_snoc, List.length_append]
    exact hr3
  · rcases ho with o | o
    · exact h.own k (o ▸ hk)
    · rw [o] at hk
      injection hk with hk
      omega
  · by_cases hi' : i < L.length
    · rw [Am.getD_old hi']
      unfold Am.updE
      rw [if_neg (by omega)]
      exact ⟨(lift _ _ _ _ (h.ln i hi').1 (fun k hk => h.ne i k hi' hk)).1, (h.ln i hi').2⟩
    · have : i = L.length := by simp at hi; omega
      subst this
      rw [Am.getD_new]
      unfold Am.updE
      rw [if_pos rfl]
      exact ⟨(lift _ _ _ _ hm hne).1, hr⟩
  · by_cases hi' : i < L.length
    · rw [Am.getD_old hi']
      unfold Am.updE
      rw [if_neg (by omega)]
      exact (lift _ _ _ _ (h.ln i hi').1 (fun k hk => h.ne i k hi' hk)).2 k hk
    · have : i = L.length := by simp at hi; omega
      subst this
      rw [Am.getD_new]
      unfold Am.updE
      rw [if_pos rfl]
      exact (lift _ _ _ _ hm hne).2 k hk
/-- The lines so far, and the text's lines. -/
structure Am.LI (w wr : World) (T : List (List UInt8)) (g0 off0 c0 : Nat) (A : Option Addr) (c i N : Nat) (L : List Am.RL) : Prop where
  len : i = L.length
  ls : Am.LsV wr w.heap.size (.slice A i c) L
  good : ∀ q ∈ L, Am.Good q
  tot : (Am.fl L).length = N
  lim : N ≤ 1024
  go : Am.go 0 T Am.st0 = Am.go i (T.drop i) (Am.stL L)
  bel : Below w.heap.size w wr
  row : RowZ 1 wr (.slice (some ⟨g0, off0, none⟩) T.length c0) T.length (Am.strs T)
  ne : (Value.slice A i c).ownBlock ≠ some g0
theorem Am.LsV.grown {w w' : World} {B : Nat} {v : Value} {L : List Am.RL} (h : Am.LsV w B v L) (g : w.grownBy w' none) : Am.LsV w' B v L := by
  obtain ⟨E, h⟩ := h
  exact ⟨E, h.grown g⟩
theorem Am.LsV.kept {w w' : World} {B : Nat} {v : Value} {L : List Am.RL} (h : Am.LsV w B v L) (g : Below w.heap.size w w') : Am.LsV w' B v L := by
  obtain ⟨E, h⟩ := h
  exact ⟨E, h.kept g⟩
theorem Am.LI.kept {w wr w' : World} {T : List (List UInt8)} {g0 off0 c0 : Nat} {A : Option Addr} {c i N : Nat} {L : List Am.RL} (h : Am.LI w wr T g0 off0 c0 A c i N L) (g : Below wr.heap.size wr w') : Am.LI w w' T g0 off0 c0 A c i N L :=
  ⟨h.len, h.ls.kept g, h.good, h.tot, h.lim, h.go, h.bel.trans (g.mono h.bel.size), h.row.below g h.row.lt, h.ne⟩
/-- One line more. -/
theorem Am.LI.push {w wr W : World} {T : List (List UInt8)} {g0 off0 c0 : Nat} {A : Option Addr} {c i N : Nat} {L : List Am.RL} (h : Am.LI w wr T g0 off0 c0 A c i N L) (hk : Below wr.heap.size wr W) {r : Am.RL} {e : Am.SC × Am.SC} {g : Nat} (hr : Am.Good r) (hm : Am.LnM W wr.heap.size (.slice e.1.1 r.ns.length e.1.2) (.slice e.2.1 r.ss.length e.2.2) r.ns r.ss) (hb : Blk W g 35 (Am.rlC r e).toArray) (hL : L.length ≤ 100000) (hlim : N + (Am.bs r).length ≤ 1024) (hgo : Am.go i (T.drop i) (Am.stL L) = Am.go (i + 1) (T.drop (i + 1)) (Am.stL (L ++ [r]))) :
    ∃ A' c' W', (Builtin.append_ #[30, 30] 30 #[.slice A i c, .slice (some ⟨g, 0, none⟩) 1 1]).run Tryd.prog W = .ok (.slice A' (i + 1) c') W' ∧ Am.LI w W' T g0 off0 c0 A' c' (i + 1) (N + (Am.bs r).length) (L ++ [r]) := by
  have hW := h.kept hk
  have hi := h.len
  subst hi
  obtain ⟨E, hE⟩ := hW.ls
  obtain ⟨A', c', W', k1, k2, k3, k4⟩ := Am.ls_push hE hW.bel.size hr.1 (hm.mono h.bel.size) (fun k hk' => by
    obtain ⟨E0, hE0⟩ := h.ls
    have hlt := hE0.row.lt k hk'
    exact ⟨fun q => by have := hm.nb k q; omega, fun q => by have := hm.sb k q; omega⟩) hb hL
  have hgl : g0 < W.heap.size := hW.row.lt g0 (by simp [Value.ownBlock])
  refine ⟨A', c', W', k1, by rw [List.length_append, List.length_singleton], k2, fun q hq => ?_, by rw [Am.fl_snoc, List.length_append, h.tot], hlim, h.go.trans hgo, hW.bel.trans (below_of_only k3 hW.bel.size (fun k hk' => hE.own k hk')), hW.row.only k3 (.inr (fun q => hW.ne (by rw [← q]; simp [Value.ownBlock]))), ?_⟩
  · rcases List.mem_append.1 hq with hq | hq
    · exact h.good q hq
    · simp at hq
      subst hq
      exact hr
  · rcases k4 with o | o
    · rw [o]; exact hW.ne
    · rw [o]; intro q; injection q with q; omega
end Go.Proofs.YtldbhcbmcogmfaaDoor
