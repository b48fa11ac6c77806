import Derived.Test.YtldbhcbmcogmfaaDoorZ08
import Derived.Test.YtldbhcbmcogmfaaDoorZ06
import Derived.Test.YtldbhcbmcogmfaaDoorZ04
set_option linter.all false
/- The document's Split, by its contract. -/
namespace Go.Proofs.YtldbhcbmcogmfaaDoor
open Go.RowKit Go.Lib
set_option linter.unusedVariables false
set_option maxRecDepth 8000

theorem Am.str_info : (Tryd.prog.info? 9).map (fun i => (i.zero, i.size, i.bytes)) = some (some (.string ⟨#[]⟩), 1, 16) := by kernel_rfl
theorem Am.strs_one (L : List (List UInt8)) : ∀ u ∈ Am.strs L, u.oneCell' = true := by
  intro u hu
  simp only [Am.strs, List.mem_map] at hu
  obtain ⟨x, _, rfl⟩ := hu
  rfl
/-- A row of strings of the call's own. -/
def Am.SlS (w : World) (s : Value) (wr : World) (L : List (List UInt8)) : Prop := RowZ 1 wr s L.length (Am.strs L) ∧ (∀ k, s.ownBlock = some k → w.heap.size ≤ k) ∧ Below w.heap.size w wr
theorem Am.st_push {w wr w2 : World} {L : List (List UInt8)} {va : Option Addr} {vc g n : Nat} {x : ByteArray} (h : Am.SlS w (.slice va n vc) wr L) (hn : n = L.length) (hi : L.length ≤ 100000) (g2 : wr.grownBy w2 none) (hb : Blk w2 g 9 #[.string x]) :
    ∃ A c w', (Builtin.append_ #[57, 57] 57 #[.slice va n vc, .slice (some ⟨g, 0, none⟩) 1 1]).run Tryd.prog w2 = .ok (.slice A (n + 1) c) w' ∧ Am.SlS w (.slice A (n + 1) c) w' (L ++ [x.data.toList]) := by
  subst hn
  obtain ⟨hrow, hown, hbel⟩ := h
  obtain ⟨i0, hi0, hz0, hz1, hz2⟩ := Am.parts Am.str_info
  have hsrc : Src Tryd.prog 1 57 (.slice (some ⟨g, 0, none⟩) 1 1) 1 [.string x] w2 := Src.ofSlice _ Tryd.underlying57 _ _ _ _ rfl (fun j u hu => by
    rw [addr_at, Nat.zero_add, hb.cell j]
    simpa using hu) (by simp [Value.oneCell'])
  obtain ⟨v', w', hk, hr3, hg', ho⟩ := run_pushZ (P := Tryd.prog) w2 57 9 57 i0 _ 16 Tryd.underlying57 hi0 hz0 hz1 hz2 (by omega) rfl _ _ _ (hrow.grown g2) (Am.strs_one _) _ _ hsrc (by omega)
  have hs2 := g2.size
  have hs1 := hbel.size
  have hbel2 := hbel.trans (below_of_only g2 hs1 (by simp))
  have he : Am.strs L ++ [.string x] = Am.strs (L ++ [x.data.toList]) := by simp [Am.strs]
  have hrow' : RowZ 1 w' v' (L ++ [x.data.toList]).length (Am.strs (L ++ [x.data.toList])) := by rw [← he, List.length_append]; exact hr3
  have hown' : ∀ k, v'.ownBlock = some k → w.heap.size ≤ k := fun k hk => by
    rcases ho with ho | ho
    · exact hown k (ho ▸ hk)
    · rw [ho] at hk
      injection hk with hk
      omega
  have hbel' := hbel2.trans (below_of_only hg' hbel2.size (fun k hk => by have := hown k hk; omega))
  obtain ⟨A, c, rfl⟩ : ∃ A c, v' = .slice A (L.length + 1) c := by
    obtain ⟨A, c, e⟩ := hr3.form
    exact ⟨A, c, e⟩
  exact ⟨A, c, w', hk, hrow', hown', hbel'⟩
/-- What Split answers. -/
def Am.RSpV (w : World) (L : List (List UInt8)) (e : Ending) (w' : World) : Prop := ∃ A c, e = .returned (.slice A L.length c) ∧ Am.SlS w (.slice A L.length c) w' L
set_option maxRecDepth 20000 in
set_option maxHeartbeats 3200000 in
theorem Am.rsplit_any (s : ByteArray) (hs : s.size ≤ 100000) (y : UInt8) (w : World) : Calls Tryd.prog 18 #[.string s, .int .u8 y.toNat] w (Am.RSpV w (Am.spl y s.data.toList)) := by
  have HV := Lib.hid (show ∀ A c n w', n = (Am.spl y s.data.toList).length → Am.SlS w (.slice A n c) w' (Am.spl y s.data.toList) → Am.RSpV w (Am.spl y s.data.toList) (.returned (.slice A n c)) w' from fun A c n w' e h => ⟨A, c, by rw [e], e ▸ h⟩)
  have HD := Lib.hid (Am.drop_s s)
  have HE := Lib.hid (show s.data.toList.drop s.size = [] from List.drop_of_length_le (by rw [Am.len]; exact Nat.le_refl _))
  have HC := Lib.hid (show (Am.spl y s.data.toList).length ≤ s.size + 1 from by
    rw [Am.spl_len]
    have := List.count_le_length (a := y) (l := s.data.toList)
    rw [Am.len] at this
    omega)
  have HX := Lib.hid (show ∀ i, i < s.size → (s.extract i (i + 1)).size = 1 from fun i h => by simp; omega)
  have HY := Lib.hid (show ∀ i (h : i < s.size), (s.extract i (i + 1)).data.toList = [s[i]'h] from fun i h => by
    rw [Go.Lib.extract_data, Am.drop_s s i h, show i + 1 - i = 1 from by omega]
    rfl)
  have hP : Am.spl y s.data.toList = [] ++ Am.spl y ([] ++ s.data.toList.drop 0) := rfl
  generalize hZ : Am.spl y s.data.toList = Z at *
  have HP := Lib.hid hP
  clear hP hZ
  have HS := Lib.hid hs
  clear hs
  go_enter Tryd.func18, Tryd.ntmps18
  go_upto_region 4 with (fail)
  have R0 : Hid (Am.SlS w (.slice (some ⟨w.heap.size, 0, none⟩) 0 0) (w.alloc (.cells #[] 9)) []) := Lib.hid ⟨RowZ.empty 1 0 (by simp), fun k hk => by simp [Value.ownBlock] at hk; omega, below_of_only (only_alloc (only_refl w none) _) (Nat.le_refl _) (by simp)⟩
  go_loopw [5, 6, 7] (fun o x k wr => ∃ (L : List (List UInt8)) (n : Nat) (A : Option Addr) (c i : Nat) (b : ByteArray), o = .slice A n c ∧ x = .string b ∧ k = .int .i64 i ∧ i ≤ s.size ∧ Hid (n = L.length ∧ n ≤ i ∧ b.size ≤ i ∧ y ∉ b.data.toList ∧ Z = L ++ Am.spl y (b.data.toList ++ s.data.toList.drop i)) ∧ Hid (Am.SlS w (.slice A n c) wr L)) (fun _ _ k _ => s.size - (Go.Lib.intOf k).toNat)
  case atStart => exact ⟨[], 0, _, _, 0, ⟨#[]⟩, rfl, rfl, rfl, by omega, Lib.hid ⟨rfl, Nat.le_refl _, Nat.le_refl _, by simp, HP.out⟩, R0⟩
  case round =>
    obtain ⟨L, n, A, c, i, b, rfl, rfl, rfl, hi, HI, HR⟩ := hrel
    have i2 : (0 : Int) ≤ (i : Int) := by omega
    have i4 : (i : Int) ≤ (i : Int) + 1 := by omega
    have hsz := HS.out
    have hbz := HI.out.2.2.1
    have g3 : ¬ 9223372036854775807 < b.size + 1 := by omega
    have g4 : ¬ 9223372036854775807 < b.size + (i + 1 - i) := by omega
    have u1 : IntKind.i64.wrap ((i : Int) + 1) = ((i + 1 : Nat) : Int) := by rw [IntKind.wrap_i64]; omega
    by_cases hin : i < s.size
    · have i1 : (i : Int) < (s.size : Int) := by omega
      have i3 : ((i + 1 : Nat) : Int) ≤ (s.size : Int) := by omega
      have g5 : ¬ 9223372036854775807 < b.size + (s.extract i (i + 1)).size := by rw [HX.out i hin]; omega
      by_cases hc : (s[i]'hin) = y
      · have i5 : ((s[i]'hin).toNat : Int) = (y.toNat : Int) := by rw [hc]
        have NI := Lib.hid (show n + 1 = (L ++ [b.data.toList]).length ∧ n + 1 ≤ i + 1 ∧ (⟨#[]⟩ : ByteArray).size ≤ i + 1 ∧ y ∉ (⟨#[]⟩ : ByteArray).data.toList ∧ Z = (L ++ [b.data.toList]) ++ Am.spl y ((⟨#[]⟩ : ByteArray).data.toList ++ s.data.toList.drop (i + 1)) from by
          obtain ⟨a1, a2, a3, a4, a5⟩ := HI.out
          refine ⟨by rw [List.length_append, ← a1]; rfl, by omega, Nat.zero_le _, by simp, ?_⟩
          rw [a5, HD.out i hin, hc, Am.spl_at y _ _ a4, List.append_assoc]
          rfl)
        obtain ⟨A2, c2, w5, hk, HR5⟩ := Am.st_push HR.out HI.out.1 (by have := HI.out.1; have := HI.out.2.1; omega) (only_alloc (only_refl wr none) (.cells #[.string b] 9)) (Blk.new wr 9 #[.string b])
        have HK := Lib.hid hk
        replace HR5 := Lib.hid HR5
        clear hk hc hsz hbz HR HI HV HD HE HC HX HY HP
        go_upto_region 5 with (at_builtin; refine wpList_append_eq rfl (.tmp 20) (.tmp 22) 57 rfl HK.out rfl rfl ?_)
        clear HK
        go_wp2
        go_roundw
        case rel => exact ⟨_, n + 1, A2, c2, i + 1, ⟨#[]⟩, rfl, rfl, by go_num, by omega, NI, HR5⟩
        case measure => simp [Go.Lib.intOf] <;> omega
      · have i5 : ¬ ((s[i]'hin).toNat : Int) = (y.toNat : Int) := fun e => hc (UInt8.toNat_inj.1 (by omega))
        have NI := Lib.hid (show n = L.length ∧ n ≤ i + 1 ∧ (b ++ s.extract i (i + 1)).size ≤ i + 1 ∧ y ∉ (b ++ s.extract i (i + 1)).data.toList ∧ Z = L ++ Am.spl y ((b ++ s.extract i (i + 1)).data.toList ++ s.data.toList.drop (i + 1)) from by
          obtain ⟨a1, a2, a3, a4, a5⟩ := HI.out
          have e : (b ++ s.extract i (i + 1)).data.toList = b.data.toList ++ [s[i]'hin] := by
            rw [ByteArray.data_append, Array.toList_append, HY.out i hin]
          refine ⟨a1, by omega, by rw [ByteArray.size_append, HX.out i hin]; omega, ?_, ?_⟩
          · rw [e, List.mem_append]
            rintro (h | h)
            · exact a4 h
            · simp at h
              exact hc h.symm
          · rw [a5, e, HD.out i hin, List.append_assoc]
            rfl)
        clear hc hsz hbz HI HV HD HE HC HX HY HP
        go_wp2
        go_roundw
        case rel => exact ⟨L, n, A, c, i + 1, _, rfl, rfl, by go_num, by omega, NI, HR⟩
        case measure => simp [Go.Lib.intOf] <;> omega
    · obtain rfl : i = s.size := by omega
      have i1 : ¬ (s.size : Int) < (s.size : Int) := by omega
      have NZ := Lib.hid (show n + 1 = Z.length ∧ L ++ [b.data.toList] = Z from by
        obtain ⟨a1, a2, a3, a4, a5⟩ := HI.out
        rw [HE.out, List.append_nil, Am.spl_none y _ a4] at a5
        exact ⟨by rw [a5, List.length_append, a1]; rfl, a5.symm⟩)
      obtain ⟨A2, c2, w5, hk, HR5⟩ := Am.st_push HR.out HI.out.1 (by have := HI.out.1; have := HI.out.2.1; omega) (only_alloc (only_refl wr none) (.cells #[.string b] 9)) (Blk.new wr 9 #[.string b])
      have HK := Lib.hid hk
      rw [NZ.out.2] at HR5
      have HQ := Lib.hid (HV.out A2 c2 (n + 1) w5 NZ.out.1 HR5)
      clear hk hsz hbz HR HR5 HI HV HD HE HC HX HY HP NZ
      go_wp2_with (at_builtin; refine wpList_append_eq rfl (.tmp 31) (.tmp 33) 57 rfl HK.out rfl rfl ?_)
      go_ret
      exact HQ.out
end Go.Proofs.YtldbhcbmcogmfaaDoor

/- The document's lines in memory. -/
namespace Go.Proofs.YtldbhcbmcogmfaaDoor
open Go.RowKit Go.Lib
set_option linter.unusedVariables false
set_option maxRecDepth 8000

theorem Am.int_info : (Tryd.prog.info? 3).map (fun i => (i.zero, i.size, i.bytes)) = some (some (.int .i64 0), 1, 8) := by kernel_rfl
def Am.intsC (ns : List Int) : List Value := ns.map (.int .i64)
theorem Am.ints_one (L : List Int) : ∀ u ∈ Am.intsC L, u.oneCell' = true := by
  intro u hu
  simp only [Am.intsC, List.mem_map] at hu
  obtain ⟨x, _, rfl⟩ := hu
  rfl
/-- The two rows of a line: numbers and their sizes. -/
structure Am.LnM (w : World) (B : Nat) (na sa : Value) (ns ss : List Int) : Prop where
  n : RowZ 1 w na ns.length (Am.intsC ns)
  s : RowZ 1 w sa ss.length (Am.intsC ss)
  nb : ∀ k, na.ownBlock = some k → B ≤ k
  sb : ∀ k, sa.ownBlock = some k → B ≤ k
  ne : ∀ k, na.ownBlock = some k → sa.ownBlock ≠ some k
section
variable {w w' : World} {B : Nat} {na sa : Value} {ns ss : List Int}
theorem Am.LnM.nil (w : World) (B : Nat) : Am.LnM w B (.slice none 0 0) (.slice none 0 0) [] [] := ⟨RowZ.nil 1 w, RowZ.nil 1 w, fun k h => by simp [Value.ownBlock] at h, fun k h => by simp [Value.ownBlock] at h, fun k h => by simp [Value.ownBlock] at h⟩
theorem Am.LnM.grown (h : Am.LnM w B na sa ns ss) (g : w.grownBy w' none) : Am.LnM w' B na sa ns ss := ⟨h.n.grown g, h.s.grown g, h.nb, h.sb, h.ne⟩
theorem Am.LnM.kept (h : Am.LnM w B na sa ns ss) (g : Below w.heap.size w w') : Am.LnM w' B na sa ns ss := ⟨h.n.below g h.n.lt, h.s.below g h.s.lt, h.nb, h.sb, h.ne⟩
theorem Am.LnM.put (h : Am.LnM w B na sa ns ss) {p : Addr} (h1 : na.ownBlock ≠ some p.block) (h2 : sa.ownBlock ≠ some p.block) (u : Value) : Am.LnM (w.setCell p u) B na sa ns ss := ⟨h.n.put h1 u, h.s.put h2 u, h.nb, h.sb, h.ne⟩
theorem Am.push_int {v : Value} (h : RowZ 1 w v ns.length (Am.intsC ns)) (hl : ns.length ≤ 100) (x : Int) :
    ∃ v' w', (Builtin.append_ #[33, 33] 33 #[v, .slice (some ⟨w.heap.size, 0, none⟩) 1 1]).run Tryd.prog (w.alloc (.cells #[.int .i64 x] 3)) = .ok v' w' ∧ RowZ 1 w' v' (ns ++ [x]).length (Am.intsC (ns ++ [x])) ∧ (w.alloc (.cells #[.int .i64 x] 3)).grownBy w' v.ownBlock ∧ (v'.ownBlock = v.ownBlock ∨ v'.ownBlock = some (w.heap.size + 1)) := by
  obtain ⟨i0, hi0, hz0, hz1, hz2⟩ := Am.parts Am.int_info
  have hb : Blk (w.alloc (.cells #[.int .i64 x] 3)) w.heap.size 3 #[.int .i64 x] := Blk.new w 3 #[.int .i64 x]
  have hsrc : Src Tryd.prog 1 33 (.slice (some ⟨w.heap.size, 0, none⟩) 1 1) 1 [.int .i64 x] (w.alloc (.cells #[.int .i64 x] 3)) := Src.ofSlice _ Tryd.underlying33 _ _ _ _ rfl (fun j u hu => by
    rw [addr_at, Nat.zero_add, hb.cell j]
    simpa using hu) (by simp [Value.oneCell'])
  obtain ⟨v', w', hk, hr3, hg', ho⟩ := run_pushZ (P := Tryd.prog) (w.alloc (.cells #[.int .i64 x] 3)) 33 3 33 i0 _ 8 Tryd.underlying33 hi0 hz0 hz1 hz2 (by omega) rfl _ _ _ (h.alloc _) (Am.ints_one _) _ _ hsrc (by omega)
  refine ⟨v', w', hk, ?_, hg', by simpa using ho⟩
  have he : Am.intsC ns ++ [.int .i64 x] = Am.intsC (ns ++ [x]) := by simp [Am.intsC]
  rw [← he, List.length_append]
  exact hr3
end
theorem Am.dis2 {a : Option Nat} {b : Nat} (h : ∀ k, a = some k → k ≠ b) : a ≠ some b := fun e => h b e rfl
theorem Am.val_mem {W : World} {B b1 b2 : Nat} {t : TypeId} {lb nm wr na sa : Value} {zs : Array Value} {ns ss : List Int} (h : Am.LnM W B na sa ns ss) (h1 : Blk W b1 t #[lb, na, sa, nm, wr]) (h2 : Blk W b2 t zs) (hB1 : B ≤ b1) (hB2 : B ≤ b2) (hne : b1 ≠ b2) (hBW : B ≤ W.heap.size)
    (f1 : ∀ k, na.ownBlock = some k → k ≠ b1 ∧ k ≠ b2) (f2 : ∀ k, sa.ownBlock = some k → k ≠ b1 ∧ k ≠ b2) (hl : ns.length ≤ 100) (hl2 : ss.length ≤ 100) (x : Int) :
    ∃ n' W5 s' W8, (Builtin.append_ #[33, 33] 33 #[na, .slice (some ⟨W.heap.size, 0, none⟩) 1 1]).run Tryd.prog (W.alloc (.cells #[.int .i64 x] 3)) = .ok n' W5 ∧ Blk W5 b1 t #[lb, na, sa, nm, wr] ∧ 
      (Builtin.append_ #[33, 33] 33 #[sa, .slice (some ⟨W5.heap.size, 0, none⟩) 1 1]).run Tryd.prog ((W5.setCell ⟨b1, 1, none⟩ n').alloc (.cells #[.int .i64 2] 3)) = .ok s' W8 ∧ Blk W8 b1 t #[lb, n', sa, nm, wr] ∧ Blk W8 b2 t zs ∧ Am.LnM W8 B n' s' (ns ++ [x]) (ss ++ [2]) ∧ Below B W W8 ∧
      (∀ k, n'.ownBlock = some k → k ≠ b1 ∧ k ≠ b2) ∧ (∀ k, s'.ownBlock = some k → k ≠ b1 ∧ k ≠ b2) ∧ ∀ i, i < W.heap.size → na.ownBlock ≠ some i → sa.ownBlock ≠ some i → i ≠ b1 → W8.heap[i]? = W.heap[i]? := by
  have l1 := h1.lt
  have l2 := h2.lt
  obtain ⟨n', W5, k1, r1, g1, o1⟩ := Am.push_int h.n hl x
  have ga : W.grownBy (W.alloc (.cells #[.int .i64 x] 3)) none := only_alloc (only_refl W none) _
  have b1' : Blk W5 b1 t #[lb, na, sa, nm, wr] := (h1.only ga (by simp)).only g1 (fun e => (f1 _ e.symm).1 rfl)
  have b2' : Blk W5 b2 t zs := (h2.only ga (by simp)).only g1 (fun e => (f1 _ e.symm).2 rfl)
  have s5 : RowZ 1 W5 sa ss.length (Am.intsC ss) := (h.s.grown ga).only g1 (Am.dis (fun i hi e => h.ne i e hi))
  have z1 := g1.size
  have z0 : (W.alloc (.cells #[.int .i64 x] 3)).heap.size = W.heap.size + 1 := by simp
  have m1 : ∀ k, n'.ownBlock = some k → B ≤ k ∧ k ≠ b1 ∧ k ≠ b2 ∧ sa.ownBlock ≠ some k := fun k hk => by
    rcases o1 with o | o
    · have hk' := o ▸ hk
      exact ⟨h.nb k hk', (f1 k hk').1, (f1 k hk').2, h.ne k hk'⟩
    · rw [o] at hk
      injection hk with hk
      exact ⟨by omega, by omega, by omega, fun e => by have := h.s.lt k e; omega⟩
  have B5 : Below B W W5 := (below_of_only ga hBW (by simp)).trans (below_of_only g1 (by omega) (fun k hk => h.nb k hk))
  have s5s : RowZ 1 (W5.setCell ⟨b1, 1, none⟩ n') sa ss.length (Am.intsC ss) := s5.put (Am.dis2 (fun k hk => (f2 k hk).1)) _
  have r5 : RowZ 1 (W5.setCell ⟨b1, 1, none⟩ n') n' (ns ++ [x]).length (Am.intsC (ns ++ [x])) := r1.put (Am.dis2 (fun k hk => (m1 k hk).2.1)) _
  have c1 : Blk (W5.setCell ⟨b1, 1, none⟩ n') b1 t #[lb, n', sa, nm, wr] := by have := b1'.put 1 n'; simpa using this
  have c2 : Blk (W5.setCell ⟨b1, 1, none⟩ n') b2 t zs := b2'.far (fun e => hne e.symm) _
  have z5 : (W5.setCell ⟨b1, 1, none⟩ n').heap.size = W5.heap.size := by simp
  have B5s : Below B W (W5.setCell ⟨b1, 1, none⟩ n') := B5.setCell hB1 _
  obtain ⟨s', W8, k2, r2, g2, o2⟩ := Am.push_int s5s hl2 2
  rw [z5] at k2
  obtain ⟨W6, hW6⟩ : ∃ W6, W6 = W5.setCell ⟨b1, 1, none⟩ n' := ⟨_, rfl⟩
  have k2' := k2
  rw [← hW6] at k2 s5s r5 c1 c2 z5 B5s g2 o2
  have ga2 : W6.grownBy (W6.alloc (.cells #[.int .i64 2] 3)) none := only_alloc (only_refl W6 none) _
  have z2 := g2.size
  have z3 : (W6.alloc (.cells #[.int .i64 2] 3)).heap.size = W6.heap.size + 1 := by simp
  have m2 : ∀ k, s'.ownBlock = some k → B ≤ k ∧ k ≠ b1 ∧ k ≠ b2 ∧ n'.ownBlock ≠ some k := fun k hk => by
    rcases o2 with o | o
    · have hk' := o ▸ hk
      exact ⟨h.sb k hk', (f2 k hk').1, (f2 k hk').2, fun e => (m1 k e).2.2.2 hk'⟩
    · rw [o] at hk
      injection hk with hk
      exact ⟨by omega, by omega, by omega, fun e => by have := r5.lt k e; omega⟩
  refine ⟨n', W5, s', W8, k1, b1', k2', (c1.only ga2 (by simp)).only g2 (fun e => (f2 _ e.symm).1 rfl), (c2.only ga2 (by simp)).only g2 (fun e => (f2 _ e.symm).2 rfl), ⟨(r5.grown ga2).only g2 (Am.dis (fun i hi e => (m1 i hi).2.2.2 e)), r2, fun k hk => (m1 k hk).1, fun k hk => (m2 k hk).1, fun k hk e => (m2 k e).2.2.2 hk⟩, ?_, fun k hk => ⟨(m1 k hk).2.1, (m1 k hk).2.2.1⟩, fun k hk => ⟨(m2 k hk).2.1, (m2 k hk).2.2.1⟩, fun i hi hn hs hb => ?_⟩
  · exact (B5s.trans (below_of_only ga2 (by omega) (by simp))).trans (below_of_only g2 (by omega) (fun k hk => h.sb k hk))
  · have e1 := ga.block i hi (by simp)
    have e2 := g1.block i (by omega) (fun e => hn e.symm)
    have e3 : W6.heap[i]? = W5.heap[i]? := by rw [hW6]; exact Below.heap_setCell W5 ⟨b1, 1, none⟩ n' i hb
    have e4 := ga2.block i (by omega) (by simp)
    have e5 := g2.block i (by omega) (fun e => hs e.symm)
    exact e5.trans (e4.trans (e3.trans (e2.trans e1)))
end Go.Proofs.YtldbhcbmcogmfaaDoor

/- The document's value, by its contract. -/
namespace Go.Proofs.YtldbhcbmcogmfaaDoor
open Go.RowKit Go.Lib
set_option linter.unusedVariables false
set_option maxRecDepth 8000

theorem Am.box1 (w : World) (t : TypeId) (cs : Array Value) : ∃ W, W = w.alloc (.cells cs t) ∧ w.grownBy W none ∧ Blk W w.heap.size t cs := ⟨_, rfl, only_alloc (only_refl _ _) _, Blk.new _ _ _⟩
theorem Am.box5c {W : World} {g : Nat} {t : TypeId} {a0 a1 a2 a3 a4 : Value} (h : Blk W g t #[a0, a1, a2, a3, a4]) : W.cell? ⟨g, 0, none⟩ = some a0 ∧ W.cell? ⟨g, 1, none⟩ = some a1 ∧ W.cell? ⟨g, 2, none⟩ = some a2 ∧ W.cell? ⟨g, 3, none⟩ = some a3 ∧ W.cell? ⟨g, 4, none⟩ = some a4 ∧ W.frozen? ⟨g, 0, none⟩ = false ∧ W.frozen? ⟨g, 1, none⟩ = false ∧ W.frozen? ⟨g, 2, none⟩ = false ∧ W.frozen? ⟨g, 3, none⟩ = false ∧ W.frozen? ⟨g, 4, none⟩ = false :=
  ⟨h.cell 0, h.cell 1, h.cell 2, h.cell 3, h.cell 4, h.free 0, h.free 1, h.free 2, h.free 3, h.free 4⟩
set_option maxRecDepth 20000 in
set_option maxHeartbeats 3200000 in
theorem Am.rvalue_any (lb nm word : ByteArray) (hs : word.size ≤ 100000) (wr : Bool) (B : Nat) (nA sA : Option Addr) (nc sc : Nat) (ns ss : List Int) (w : World) (h : Am.LnM w B (.slice nA ns.length nc) (.slice sA ss.length sc) ns ss) (hB : B ≤ w.heap.size) (hl : ns.length ≤ 100) (hl2 : ss.length ≤ 100) :
    Calls Tryd.prog 33 #[.agg #[.string lb, .slice nA ns.length nc, .slice sA ss.length sc, .string nm, .bool wr], .string word] w fun e w' => ∃ A c A2 c2, e = .returned (.agg #[.string lb, .slice A (ns.length + 1) c, .slice A2 (ss.length + 1) c2, .string (if Am.isName word.data.toList then word else nm), .bool (wr || (!Am.isName word.data.toList && decide (Am.numZ word.data.toList 65535 < 0)))]) ∧ Am.LnM w' B (.slice A (ns.length + 1) c) (.slice A2 (ss.length + 1) c2) (ns ++ [if Am.isName word.data.toList then 0 else Am.numZ word.data.toList 65535]) (ss ++ [2]) ∧ Below B w w' ∧ ∀ i, i < w.heap.size → (Value.slice nA ns.length nc).ownBlock ≠ some i → (Value.slice sA ss.length sc).ownBlock ≠ some i → w'.heap[i]? = w.heap[i]? := by
  obtain ⟨W1, hW1, G1, hB1⟩  := Am.box1 w 35 #[.string lb, .slice nA ns.length nc, .slice sA ss.length sc, .string nm, .bool wr]
  obtain ⟨W2, hW2, G2, hB2⟩  := Am.box1 W1 35 #[.string ⟨#[]⟩, .slice none 0 0, .slice none 0 0, .string ⟨#[]⟩, .bool false]
  have z1 : W1.heap.size = w.heap.size + 1 := by rw [hW1]; simp
  have z2 : W2.heap.size = w.heap.size + 2 := by rw [hW2]; simp [z1]
  rw [z1] at hB2
  have P1 := hB1.only G2 (by simp)
  have M2 := (h.grown G1).grown G2
  have BW2 : Below B w W2 := (below_of_only G1 hB (by simp)).trans (below_of_only G2 (by omega) (by simp))
  have f1 : ∀ k, (Value.slice nA ns.length nc).ownBlock = some k → k < w.heap.size := h.n.lt
  have f2 : ∀ k, (Value.slice sA ss.length sc).ownBlock = some k → k < w.heap.size := h.s.lt
  have HL := Lib.hid (Am.rletters_any word hs W2)
  have HN := Lib.hid (show Calls Tryd.prog 32 #[.string word, .int .i64 65535] W2 fun e w' => e = .returned (.int .i64 (Am.numZ word.data.toList 65535)) ∧ w' = W2 from Am.rnumber_any word hs 65535 (by decide) W2)
  have n1 : ¬ w.heap.size = w.heap.size + 1 := by omega
  have n2 : ¬ w.heap.size + 1 = w.heap.size := by omega
  generalize hv : Am.isName word.data.toList = nb at *
  generalize Am.numZ word.data.toList 65535 = z at *
  cases nb with
  | true =>
    obtain ⟨W3, hW3⟩ : ∃ W3, W3 = W2.setCell ⟨w.heap.size, 3, none⟩ (.string word) := ⟨_, rfl⟩
    have Q1 : Blk W3 w.heap.size 35 #[.string lb, .slice nA ns.length nc, .slice sA ss.length sc, .string word, .bool wr] := by rw [hW3]; have := P1.put 3 (.string word); simpa using this
    have Q2 : Blk W3 (w.heap.size + 1) 35 #[.string ⟨#[]⟩, .slice none 0 0, .slice none 0 0, .string ⟨#[]⟩, .bool false] := by rw [hW3]; exact hB2.far (fun e => n2 e) _
    have M3 : Am.LnM W3 B (.slice nA ns.length nc) (.slice sA ss.length sc) ns ss := by rw [hW3]; exact M2.put (fun e => by have := f1 _ e; simp at this) (fun e => by have := f2 _ e; simp at this) _
    have z3 : W3.heap.size = w.heap.size + 2 := by rw [hW3]; simp [z2]
    have BW3 : Below B w W3 := by rw [hW3]; exact BW2.setCell hB _
    obtain ⟨n', W5, s', W8, k1, R1, k2, S1, S2, M8, BW8, m1, m2, kk⟩ := Am.val_mem M3 Q1 Q2 hB (by omega) (by omega) (by omega) (fun k hk => by have := f1 k hk; omega) (fun k hk => by have := f2 k hk; omega) hl hl2 0
    obtain ⟨A, c, rfl⟩ : ∃ A c, n' = .slice A (ns.length + 1) c := by obtain ⟨A, c, e⟩ := M8.n.form; exact ⟨A, c, by rw [e]; simp⟩
    obtain ⟨A2, c2, rfl⟩ : ∃ A c, s' = .slice A (ss.length + 1) c := by obtain ⟨A, c, e⟩ := M8.s.form; exact ⟨A, c, by rw [e]; simp⟩
    rw [z3] at k1
    have HK1 := Lib.hid k1
    have HK2 := Lib.hid k2
    obtain ⟨WX, hWX⟩ : ∃ WX, WX = (((((W8.setCell ⟨w.heap.size, 2, none⟩ (.slice A2 (ss.length + 1) c2)).setCell ⟨w.heap.size + 1, 0, none⟩ (.string lb)).setCell ⟨w.heap.size + 1, 1, none⟩ (.slice A (ns.length + 1) c)).setCell ⟨w.heap.size + 1, 2, none⟩ (.slice A2 (ss.length + 1) c2)).setCell ⟨w.heap.size + 1, 3, none⟩ (.string word)).setCell ⟨w.heap.size + 1, 4, none⟩ (.bool wr) := ⟨_, rfl⟩
    have RES : Hid (Am.LnM WX B (.slice A (ns.length + 1) c) (.slice A2 (ss.length + 1) c2) (ns ++ [0]) (ss ++ [2]) ∧ Below B w WX ∧ Blk WX (w.heap.size + 1) 35 #[.string lb, .slice A (ns.length + 1) c, .slice A2 (ss.length + 1) c2, .string word, .bool wr] ∧ ∀ i, i < w.heap.size → (Value.slice nA ns.length nc).ownBlock ≠ some i → (Value.slice sA ss.length sc).ownBlock ≠ some i → WX.heap[i]? = w.heap[i]?) := Lib.hid (by
      rw [hWX]
      have x1 : (Value.slice A (ns.length + 1) c).ownBlock ≠ some w.heap.size := fun e => (m1 _ e).1 rfl
      have x2 : (Value.slice A (ns.length + 1) c).ownBlock ≠ some (w.heap.size + 1) := fun e => (m1 _ e).2 rfl
      have y1 : (Value.slice A2 (ss.length + 1) c2).ownBlock ≠ some w.heap.size := fun e => (m2 _ e).1 rfl
      have y2 : (Value.slice A2 (ss.length + 1) c2).ownBlock ≠ some (w.heap.size + 1) := fun e => (m2 _ e).2 rfl
      refine ⟨(((((M8.put x1 y1 _).put x2 y2 _).put x2 y2 _).put x2 y2 _).put x2 y2 _).put x2 y2 _, ?_, ?_, fun i hi hn hs => ?_⟩
      · have hB' : B ≤ w.heap.size + 1 := by omega
        exact (((((((BW3.trans BW8).setCell hB _).setCell hB' _).setCell hB' _).setCell hB' _).setCell hB' _).setCell hB' _)
      · have := (((((S2.far (p := ⟨w.heap.size, 2, none⟩) (fun e => n2 e) (.slice A2 (ss.length + 1) c2)).put 0 (.string lb)).put 1 (.slice A (ns.length + 1) c)).put 2 (.slice A2 (ss.length + 1) c2)).put 3 (.string word)).put 4 (.bool wr)
        simpa using this
      · have e0 := (G1.block i hi (by simp))
        have e1 := (G2.block i (by omega) (by simp))
        have e2 : W3.heap[i]? = W2.heap[i]? := by rw [hW3]; exact Below.heap_setCell W2 ⟨w.heap.size, 3, none⟩ _ i (show i ≠ w.heap.size by omega)
        have e3 := kk i (by omega) hn hs (by omega)
        have n0 : i ≠ w.heap.size := by omega
        have n9 : i ≠ w.heap.size + 1 := by omega
        refine (Below.heap_setCell _ ⟨w.heap.size + 1, 4, none⟩ _ i n9).trans ?_
        refine (Below.heap_setCell _ ⟨w.heap.size + 1, 3, none⟩ _ i n9).trans ?_
        refine (Below.heap_setCell _ ⟨w.heap.size + 1, 2, none⟩ _ i n9).trans ?_
        refine (Below.heap_setCell _ ⟨w.heap.size + 1, 1, none⟩ _ i n9).trans ?_
        refine (Below.heap_setCell _ ⟨w.heap.size + 1, 0, none⟩ _ i n9).trans ?_
        refine (Below.heap_setCell _ ⟨w.heap.size, 2, none⟩ _ i n0).trans ?_
        exact e3.trans (e2.trans (e1.trans e0)))
    obtain ⟨a0, a1, a2, a3, a4, g0, g1, g2, g3, g4⟩ := Am.box5c P1
    obtain ⟨b0, b1, b2, b3, b4, b5, b6, b7, b8, b9⟩ := Am.box5c Q1
    obtain ⟨d0, d1, d2, d3, d4, d5, d6, d7, d8, d9⟩ := Am.box5c R1
    have S1' := S1.put 2 (.slice A2 (ss.length + 1) c2)
    have S2' := S2.far (p := ⟨w.heap.size, 2, none⟩) (fun e => n2 e) (.slice A2 (ss.length + 1) c2)
    obtain ⟨_, _, _, _, _, v0, v1, v2, v3, v4⟩ := Am.box5c S1
    simp only [List.setIfInBounds_toArray, List.set_cons_zero, List.set_cons_succ] at S1'
    obtain ⟨c0, c1, c2', c3, c4, _⟩ := Am.box5c S1'
    obtain ⟨e0, e1, e2, e3, e4, e5, e6, e7, e8, e9⟩ := Am.box5c S2
    clear kk h M2 M3 M8 BW2 BW3 BW8 P1 Q1 Q2 R1 S1 S2 S1' S2' G1 G2 hB1 hB2 k1 k2 m1 m2 f1 f2 hs hl hl2
    go_enter Tryd.func33, Tryd.ntmps33
    go_upto_region 1 with (fail)
    rw [← hW1]
    rw [← hW2]
    clear hW1 hW2
    go_upto_region 3 with (go_at_call 31; (with_reducible refine HL.out.mono ?_); rintro e w2 ⟨rfl, rfl⟩)
    rw [← hW3]
    clear hW3 HL HN
    go_upto_region 7 with (at_builtin; refine wpList_append_eq rfl (.tmp 11) (.tmp 12) 33 rfl HK1.out rfl rfl ?_)
    go_wp2_with (at_builtin; refine wpList_append_eq rfl (.tmp 31) (.tmp 32) 33 rfl HK2.out rfl rfl ?_)
    rw [← hWX]
    clear hWX
    obtain ⟨q0, q1, q2, q3, q4, _⟩ := Am.box5c RES.out.2.2.1
    refine bodyPost_ret (v := .agg #[.string lb, .slice A (ns.length + 1) c, .slice A2 (ss.length + 1) c2, .string word, .bool wr]) (by simp [results, Tryd.results33, go_sem, q0, q1, q2, q3, q4]) rfl ⟨A, c, A2, c2, by first | rfl | simp, RES.out.1, RES.out.2.1, RES.out.2.2.2⟩
  | false =>
    cases wr with
    | true =>
      obtain ⟨W3, hW3⟩ : ∃ W3, W3 = W2.setCell ⟨w.heap.size, 4, none⟩ (.bool true) := ⟨_, rfl⟩
      have Q1 : Blk W3 w.heap.size 35 #[.string lb, .slice nA ns.length nc, .slice sA ss.length sc, .string nm, .bool true] := by rw [hW3]; have := P1.put 4 (.bool true); simpa using this
      have Q2 : Blk W3 (w.heap.size + 1) 35 #[.string ⟨#[]⟩, .slice none 0 0, .slice none 0 0, .string ⟨#[]⟩, .bool false] := by rw [hW3]; exact hB2.far (fun e => n2 e) _
      have M3 : Am.LnM W3 B (.slice nA ns.length nc) (.slice sA ss.length sc) ns ss := by rw [hW3]; exact M2.put (fun e => by have := f1 _ e; simp at this) (fun e => by have := f2 _ e; simp at this) _
      have z3 : W3.heap.size = w.heap.size + 2 := by rw [hW3]; simp [z2]
      have BW3 : Below B w W3 := by rw [hW3]; exact BW2.setCell hB _
      obtain ⟨n', W5, s', W8, k1, R1, k2, S1, S2, M8, BW8, m1, m2, kk⟩ := Am.val_mem M3 Q1 Q2 hB (by omega) (by omega) (by omega) (fun k hk => by have := f1 k hk; omega) (fun k hk => by have := f2 k hk; omega) hl hl2 z
      obtain ⟨A, c, rfl⟩ : ∃ A c, n' = .slice A (ns.length + 1) c := by obtain ⟨A, c, e⟩ := M8.n.form; exact ⟨A, c, by rw [e]; simp⟩
      obtain ⟨A2, c2, rfl⟩ : ∃ A c, s' = .slice A (ss.length + 1) c := by obtain ⟨A, c, e⟩ := M8.s.form; exact ⟨A, c, by rw [e]; simp⟩
      rw [z3] at k1
      have HK1 := Lib.hid k1
      have HK2 := Lib.hid k2
      obtain ⟨WX, hWX⟩ : ∃ WX, WX = (((((W8.setCell ⟨w.heap.size, 2, none⟩ (.slice A2 (ss.length + 1) c2)).setCell ⟨w.heap.size + 1, 0, none⟩ (.string lb)).setCell ⟨w.heap.size + 1, 1, none⟩ (.slice A (ns.length + 1) c)).setCell ⟨w.heap.size + 1, 2, none⟩ (.slice A2 (ss.length + 1) c2)).setCell ⟨w.heap.size + 1, 3, none⟩ (.string nm)).setCell ⟨w.heap.size + 1, 4, none⟩ (.bool true) := ⟨_, rfl⟩
      have RES : Hid (Am.LnM WX B (.slice A (ns.length + 1) c) (.slice A2 (ss.length + 1) c2) (ns ++ [z]) (ss ++ [2]) ∧ Below B w WX ∧ Blk WX (w.heap.size + 1) 35 #[.string lb, .slice A (ns.length + 1) c, .slice A2 (ss.length + 1) c2, .string nm, .bool true] ∧ ∀ i, i < w.heap.size → (Value.slice nA ns.length nc).ownBlock ≠ some i → (Value.slice sA ss.length sc).ownBlock ≠ some i → WX.heap[i]? = w.heap[i]?) := Lib.hid (by
        rw [hWX]
        have x1 : (Value.slice A (ns.length + 1) c).ownBlock ≠ some w.heap.size := fun e => (m1 _ e).1 rfl
        have x2 : (Value.slice A (ns.length + 1) c).ownBlock ≠ some (w.heap.size + 1) := fun e => (m1 _ e).2 rfl
        have y1 : (Value.slice A2 (ss.length + 1) c2).ownBlock ≠ some w.heap.size := fun e => (m2 _ e).1 rfl
        have y2 : (Value.slice A2 (ss.length + 1) c2).ownBlock ≠ some (w.heap.size + 1) := fun e => (m2 _ e).2 rfl
        refine ⟨(((((M8.put x1 y1 _).put x2 y2 _).put x2 y2 _).put x2 y2 _).put x2 y2 _).put x2 y2 _, ?_, ?_, fun i hi hn hs => ?_⟩
        · have hB' : B ≤ w.heap.size + 1 := by omega
          exact (((((((BW3.trans BW8).setCell hB _).setCell hB' _).setCell hB' _).setCell hB' _).setCell hB' _).setCell hB' _)
        · have := (((((S2.far (p := ⟨w.heap.size, 2, none⟩) (fun e => n2 e) (.slice A2 (ss.length + 1) c2)).put 0 (.string lb)).put 1 (.slice A (ns.length + 1) c)).put 2 (.slice A2 (ss.length + 1) c2)).put 3 (.string nm)).put 4 (.bool true)
          simpa using this
        · have e0 := (G1.block i hi (by simp))
          have e1 := (G2.block i (by omega) (by simp))
          have e2 : W3.heap[i]? = W2.heap[i]? := by rw [hW3]; exact Below.heap_setCell W2 ⟨w.heap.size, 4, none⟩ _ i (show i ≠ w.heap.size by omega)
          have e3 := kk i (by omega) hn hs (by omega)
          have n0 : i ≠ w.heap.size := by omega
          have n9 : i ≠ w.heap.size + 1 := by omega
          refine (Below.heap_setCell _ ⟨w.heap.size + 1, 4, none⟩ _ i n9).trans ?_
          refine (Below.heap_setCell _ ⟨w.heap.size + 1, 3, none⟩ _ i n9).trans ?_
          refine (Below.heap_setCell _ ⟨w.heap.size + 1, 2, none⟩ _ i n9).trans ?_
          refine (Below.heap_setCell _ ⟨w.heap.size + 1, 1, none⟩ _ i n9).trans ?_
          refine (Below.heap_setCell _ ⟨w.heap.size + 1, 0, none⟩ _ i n9).trans ?_
          refine (Below.heap_setCell _ ⟨w.heap.size, 2, none⟩ _ i n0).trans ?_
          exact e3.trans (e2.trans (e1.trans e0)))
      obtain ⟨a0, a1, a2, a3, a4, g0, g1, g2, g3, g4⟩ := Am.box5c P1
      obtain ⟨b0, b1, b2, b3, b4, b5, b6, b7, b8, b9⟩ := Am.box5c Q1
      obtain ⟨d0, d1, d2, d3, d4, d5, d6, d7, d8, d9⟩ := Am.box5c R1
      have S1' := S1.put 2 (.slice A2 (ss.length + 1) c2)
      have S2' := S2.far (p := ⟨w.heap.size, 2, none⟩) (fun e => n2 e) (.slice A2 (ss.length + 1) c2)
      obtain ⟨_, _, _, _, _, v0, v1, v2, v3, v4⟩ := Am.box5c S1
      simp only [List.setIfInBounds_toArray, List.set_cons_zero, List.set_cons_succ] at S1'
      obtain ⟨c0, c1, c2', c3, c4, _⟩ := Am.box5c S1'
      obtain ⟨e0, e1, e2, e3, e4, e5, e6, e7, e8, e9⟩ := Am.box5c S2
      clear kk h M2 M3 M8 BW2 BW3 BW8 P1 Q1 Q2 R1 S1 S2 S1' S2' G1 G2 hB1 hB2 k1 k2 m1 m2 f1 f2 hs hl hl2
      go_enter Tryd.func33, Tryd.ntmps33
      go_upto_region 1 with (fail)
      rw [← hW1]
      rw [← hW2]
      clear hW1 hW2
      go_upto_region 6 with (first
        | (go_at_call 31; (with_reducible refine HL.out.mono ?_); rintro e w2 ⟨rfl, rfl⟩)
        | (go_at_call 32; (with_reducible refine HN.out.mono ?_); rintro e w2 ⟨rfl, rfl⟩))
      rw [← hW3]
      clear hW3 HL HN
      go_upto_region 7 with (at_builtin; refine wpList_append_eq rfl (.tmp 25) (.tmp 27) 33 rfl HK1.out rfl rfl ?_)
      go_wp2_with (at_builtin; refine wpList_append_eq rfl (.tmp 31) (.tmp 32) 33 rfl HK2.out rfl rfl ?_)
      rw [← hWX]
      clear hWX
      obtain ⟨q0, q1, q2, q3, q4, _⟩ := Am.box5c RES.out.2.2.1
      refine bodyPost_ret (v := .agg #[.string lb, .slice A (ns.length + 1) c, .slice A2 (ss.length + 1) c2, .string nm, .bool true]) (by simp [results, Tryd.results33, go_sem, q0, q1, q2, q3, q4]) rfl ⟨A, c, A2, c2, by first | rfl | simp, RES.out.1, RES.out.2.1, RES.out.2.2.2⟩
    | false =>
      by_cases hz : z < 0
      · have dz : decide (z < 0) = true := by simpa using hz
        obtain ⟨W3, hW3⟩ : ∃ W3, W3 = W2.setCell ⟨w.heap.size, 4, none⟩ (.bool true) := ⟨_, rfl⟩
        have Q1 : Blk W3 w.heap.size 35 #[.string lb, .slice nA ns.length nc, .slice sA ss.length sc, .string nm, .bool true] := by rw [hW3]; have := P1.put 4 (.bool true); simpa using this
        have Q2 : Blk W3 (w.heap.size + 1) 35 #[.string ⟨#[]⟩, .slice none 0 0, .slice none 0 0, .string ⟨#[]⟩, .bool false] := by rw [hW3]; exact hB2.far (fun e => n2 e) _
        have M3 : Am.LnM W3 B (.slice nA ns.length nc) (.slice sA ss.length sc) ns ss := by rw [hW3]; exact M2.put (fun e => by have := f1 _ e; simp at this) (fun e => by have := f2 _ e; simp at this) _
        have z3 : W3.heap.size = w.heap.size + 2 := by rw [hW3]; simp [z2]
        have BW3 : Below B w W3 := by rw [hW3]; exact BW2.setCell hB _
        obtain ⟨n', W5, s', W8, k1, R1, k2, S1, S2, M8, BW8, m1, m2, kk⟩ := Am.val_mem M3 Q1 Q2 hB (by omega) (by omega) (by omega) (fun k hk => by have := f1 k hk; omega) (fun k hk => by have := f2 k hk; omega) hl hl2 z
        obtain ⟨A, c, rfl⟩ : ∃ A c, n' = .slice A (ns.length + 1) c := by obtain ⟨A, c, e⟩ := M8.n.form; exact ⟨A, c, by rw [e]; simp⟩
        obtain ⟨A2, c2, rfl⟩ : ∃ A c, s' = .slice A (ss.length + 1) c := by obtain ⟨A, c, e⟩ := M8.s.form; exact ⟨A, c, by rw [e]; simp⟩
        rw [z3] at k1
        have HK1 := Lib.hid k1
        have HK2 := Lib.hid k2
        obtain ⟨WX, hWX⟩ : ∃ WX, WX = (((((W8.setCell ⟨w.heap.size, 2, none⟩ (.slice A2 (ss.length + 1) c2)).setCell ⟨w.heap.size + 1, 0, none⟩ (.string lb)).setCell ⟨w.heap.size + 1, 1, none⟩ (.slice A (ns.length + 1) c)).setCell ⟨w.heap.size + 1, 2, none⟩ (.slice A2 (ss.length + 1) c2)).setCell ⟨w.heap.size + 1, 3, none⟩ (.string nm)).setCell ⟨w.heap.size + 1, 4, none⟩ (.bool true) := ⟨_, rfl⟩
        have RES : Hid (Am.LnM WX B (.slice A (ns.length + 1) c) (.slice A2 (ss.length + 1) c2) (ns ++ [z]) (ss ++ [2]) ∧ Below B w WX ∧ Blk WX (w.heap.size + 1) 35 #[.string lb, .slice A (ns.length + 1) c, .slice A2 (ss.length + 1) c2, .string nm, .bool true] ∧ ∀ i, i < w.heap.size → (Value.slice nA ns.length nc).ownBlock ≠ some i → (Value.slice sA ss.length sc).ownBlock ≠ some i → WX.heap[i]? = w.heap[i]?) := Lib.hid (by
          rw [hWX]
          have x1 : (Value.slice A (ns.length + 1) c).ownBlock ≠ some w.heap.size := fun e => (m1 _ e).1 rfl
          have x2 : (Value.slice A (ns.length + 1) c).ownBlock ≠ some (w.heap.size + 1) := fun e => (m1 _ e).2 rfl
          have y1 : (Value.slice A2 (ss.length + 1) c2).ownBlock ≠ some w.heap.size := fun e => (m2 _ e).1 rfl
          have y2 : (Value.slice A2 (ss.length + 1) c2).ownBlock ≠ some (w.heap.size + 1) := fun e => (m2 _ e).2 rfl
          refine ⟨(((((M8.put x1 y1 _).put x2 y2 _).put x2 y2 _).put x2 y2 _).put x2 y2 _).put x2 y2 _, ?_, ?_, fun i hi hn hs => ?_⟩
          · have hB' : B ≤ w.heap.size + 1 := by omega
            exact (((((((BW3.trans BW8).setCell hB _).setCell hB' _).setCell hB' _).setCell hB' _).setCell hB' _).setCell hB' _)
          · have := (((((S2.far (p := ⟨w.heap.size, 2, none⟩) (fun e => n2 e) (.slice A2 (ss.length + 1) c2)).put 0 (.string lb)).put 1 (.slice A (ns.length + 1) c)).put 2 (.slice A2 (ss.length + 1) c2)).put 3 (.string nm)).put 4 (.bool true)
            simpa using this
          · have e0 := (G1.block i hi (by simp))
            have e1 := (G2.block i (by omega) (by simp))
            have e2 : W3.heap[i]? = W2.heap[i]? := by rw [hW3]; exact Below.heap_setCell W2 ⟨w.heap.size, 4, none⟩ _ i (show i ≠ w.heap.size by omega)
            have e3 := kk i (by omega) hn hs (by omega)
            have n0 : i ≠ w.heap.size := by omega
            have n9 : i ≠ w.heap.size + 1 := by omega
            refine (Below.heap_setCell _ ⟨w.heap.size + 1, 4, none⟩ _ i n9).trans ?_
            refine (Below.heap_setCell _ ⟨w.heap.size + 1, 3, none⟩ _ i n9).trans ?_
            refine (Below.heap_setCell _ ⟨w.heap.size + 1, 2, none⟩ _ i n9).trans ?_
            refine (Below.heap_setCell _ ⟨w.heap.size + 1, 1, none⟩ _ i n9).trans ?_
            refine (Below.heap_setCell _ ⟨w.heap.size + 1, 0, none⟩ _ i n9).trans ?_
            refine (Below.heap_setCell _ ⟨w.heap.size, 2, none⟩ _ i n0).trans ?_
            exact e3.trans (e2.trans (e1.trans e0)))
        obtain ⟨a0, a1, a2, a3, a4, g0, g1, g2, g3, g4⟩ := Am.box5c P1
        obtain ⟨b0, b1, b2, b3, b4, b5, b6, b7, b8, b9⟩ := Am.box5c Q1
        obtain ⟨d0, d1, d2, d3, d4, d5, d6, d7, d8, d9⟩ := Am.box5c R1
        have S1' := S1.put 2 (.slice A2 (ss.length + 1) c2)
        have S2' := S2.far (p := ⟨w.heap.size, 2, none⟩) (fun e => n2 e) (.slice A2 (ss.length + 1) c2)
        obtain ⟨_, _, _, _, _, v0, v1, v2, v3, v4⟩ := Am.box5c S1
        simp only [List.setIfInBounds_toArray, List.set_cons_zero, List.set_cons_succ] at S1'
        obtain ⟨c0, c1, c2', c3, c4, _⟩ := Am.box5c S1'
        obtain ⟨e0, e1, e2, e3, e4, e5, e6, e7, e8, e9⟩ := Am.box5c S2
        clear kk h M2 M3 M8 BW2 BW3 BW8 P1 Q1 Q2 R1 S1 S2 S1' S2' G1 G2 hB1 hB2 k1 k2 m1 m2 f1 f2 hs hl hl2
        go_enter Tryd.func33, Tryd.ntmps33
        go_upto_region 1 with (fail)
        rw [← hW1]
        rw [← hW2]
        clear hW1 hW2
        go_upto_region 6 with (first
          | (go_at_call 31; (with_reducible refine HL.out.mono ?_); rintro e w2 ⟨rfl, rfl⟩)
          | (go_at_call 32; (with_reducible refine HN.out.mono ?_); rintro e w2 ⟨rfl, rfl⟩))
        rw [← hW3]
        clear hW3 HL HN
        go_upto_region 7 with (at_builtin; refine wpList_append_eq rfl (.tmp 25) (.tmp 27) 33 rfl HK1.out rfl rfl ?_)
        go_wp2_with (at_builtin; refine wpList_append_eq rfl (.tmp 31) (.tmp 32) 33 rfl HK2.out rfl rfl ?_)
        rw [← hWX]
        clear hWX
        obtain ⟨q0, q1, q2, q3, q4, _⟩ := Am.box5c RES.out.2.2.1
        refine bodyPost_ret (v := .agg #[.string lb, .slice A (ns.length + 1) c, .slice A2 (ss.length + 1) c2, .string nm, .bool true]) (by simp [results, Tryd.results33, go_sem, q0, q1, q2, q3, q4]) rfl ⟨A, c, A2, c2, by first | rfl | simp [dz] | simp [hz], RES.out.1, RES.out.2.1, RES.out.2.2.2⟩
      · have dz : decide (z < 0) = false := by simpa using hz
        obtain ⟨W3, hW3⟩ : ∃ W3, W3 = W2.setCell ⟨w.heap.size, 4, none⟩ (.bool false) := ⟨_, rfl⟩
        have Q1 : Blk W3 w.heap.size 35 #[.string lb, .slice nA ns.length nc, .slice sA ss.length sc, .string nm, .bool false] := by rw [hW3]; have := P1.put 4 (.bool false); simpa using this
        have Q2 : Blk W3 (w.heap.size + 1) 35 #[.string ⟨#[]⟩, .slice none 0 0, .slice none 0 0, .string ⟨#[]⟩, .bool false] := by rw [hW3]; exact hB2.far (fun e => n2 e) _
        have M3 : Am.LnM W3 B (.slice nA ns.length nc) (.slice sA ss.length sc) ns ss := by rw [hW3]; exact M2.put (fun e => by have := f1 _ e; simp at this) (fun e => by have := f2 _ e; simp at this) _
        have z3 : W3.heap.size = w.heap.size + 2 := by rw [hW3]; simp [z2]
        have BW3 : Below B w W3 := by rw [hW3]; exact BW2.setCell hB _
        obtain ⟨n', W5, s', W8, k1, R1, k2, S1, S2, M8, BW8, m1, m2, kk⟩ := Am.val_mem M3 Q1 Q2 hB (by omega) (by omega) (by omega) (fun k hk => by have := f1 k hk; omega) (fun k hk => by have := f2 k hk; omega) hl hl2 z
        obtain ⟨A, c, rfl⟩ : ∃ A c, n' = .slice A (ns.length + 1) c := by obtain ⟨A, c, e⟩ := M8.n.form; exact ⟨A, c, by rw [e]; simp⟩
        obtain ⟨A2, c2, rfl⟩ : ∃ A c, s' = .slice A (ss.length + 1) c := by obtain ⟨A, c, e⟩ := M8.s.form; exact ⟨A, c, by rw [e]; simp⟩
        rw [z3] at k1
        have HK1 := Lib.hid k1
        have HK2 := Lib.hid k2
        obtain ⟨WX, hWX⟩ : ∃ WX, WX = (((((W8.setCell ⟨w.heap.size, 2, none⟩ (.slice A2 (ss.length + 1) c2)).setCell ⟨w.heap.size + 1, 0, none⟩ (.string lb)).setCell ⟨w.heap.size + 1, 1, none⟩ (.slice A (ns.length + 1) c)).setCell ⟨w.heap.size + 1, 2, none⟩ (.slice A2 (ss.length + 1) c2)).setCell ⟨w.heap.size + 1, 3, none⟩ (.string nm)).setCell ⟨w.heap.size + 1, 4, none⟩ (.bool false) := ⟨_, rfl⟩
        have RES : Hid (Am.LnM WX B (.slice A (ns.length + 1) c) (.slice A2 (ss.length + 1) c2) (ns ++ [z]) (ss ++ [2]) ∧ Below B w WX ∧ Blk WX (w.heap.size + 1) 35 #[.string lb, .slice A (ns.length + 1) c, .slice A2 (ss.length + 1) c2, .string nm, .bool false] ∧ ∀ i, i < w.heap.size → (Value.slice nA ns.length nc).ownBlock ≠ some i → (Value.slice sA ss.length sc).ownBlock ≠ some i → WX.heap[i]? = w.heap[i]?) := Lib.hid (by
          rw [hWX]
          have x1 : (Value.slice A (ns.length + 1) c).ownBlock ≠ some w.heap.size := fun e => (m1 _ e).1 rfl
          have x2 : (Value.slice A (ns.length + 1) c).ownBlock ≠ some (w.heap.size + 1) := fun e => (m1 _ e).2 rfl
          have y1 : (Value.slice A2 (ss.length + 1) c2).ownBlock ≠ some w.heap.size := fun e => (m2 _ e).1 rfl
          have y2 : (Value.slice A2 (ss.length + 1) c2).ownBlock ≠ some (w.heap.size + 1) := fun e => (m2 _ e).2 rfl
          refine ⟨(((((M8.put x1 y1 _).put x2 y2 _).put x2 y2 _).put x2 y2 _).put x2 y2 _).put x2 y2 _, ?_, ?_, fun i hi hn hs => ?_⟩
          · have hB' : B ≤ w.heap.size + 1 := by omega
            exact (((((((BW3.trans BW8).setCell hB _).setCell hB' _).setCell hB' _).setCell hB' _).setCell hB' _).setCell hB' _)
          · have := (((((S2.far (p := ⟨w.heap.size, 2, none⟩) (fun e => n2 e) (.slice A2 (ss.length + 1) c2)).put 0 (.string lb)).put 1 (.slice A (ns.length + 1) c)).put 2 (.slice A2 (ss.length + 1) c2)).put 3 (.string nm)).put 4 (.bool false)
            simpa using this
          · have e0 := (G1.block i hi (by simp))
            have e1 := (G2.block i (by omega) (by simp))
            have e2 : W3.heap[i]? = W2.heap[i]? := by rw [hW3]; exact Below.heap_setCell W2 ⟨w.heap.size, 4, none⟩ _ i (show i ≠ w.heap.size by omega)
            have e3 := kk i (by omega) hn hs (by omega)
            have n0 : i ≠ w.heap.size := by omega
            have n9 : i ≠ w.heap.size + 1 := by omega
            refine (Below.heap_setCell _ ⟨w.heap.size + 1, 4, none⟩ _ i n9).trans ?_
            refine (Below.heap_setCell _ ⟨w.heap.size + 1, 3, none⟩ _ i n9).trans ?_
            refine (Below.heap_setCell _ ⟨w.heap.size + 1, 2, none⟩ _ i n9).trans ?_
            refine (Below.heap_setCell _ ⟨w.heap.size + 1, 1, none⟩ _ i n9).trans ?_
            refine (Below.heap_setCell _ ⟨w.heap.size + 1, 0, none⟩ _ i n9).trans ?_
            refine (Below.heap_setCell _ ⟨w.heap.size, 2, none⟩ _ i n0).trans ?_
            exact e3.trans (e2.trans (e1.trans e0)))
        obtain ⟨a0, a1, a2, a3, a4, g0, g1, g2, g3, g4⟩ := Am.box5c P1
        obtain ⟨b0, b1, b2, b3, b4, b5, b6, b7, b8, b9⟩ := Am.box5c Q1
        obtain ⟨d0, d1, d2, d3, d4, d5, d6, d7, d8, d9⟩ := Am.box5c R1
        have S1' := S1.put 2 (.slice A2 (ss.length + 1) c2)
        have S2' := S2.far (p := ⟨w.heap.size, 2, none⟩) (fun e => n2 e) (.slice A2 (ss.length + 1) c2)
        obtain ⟨_, _, _, _, _, v0, v1, v2, v3, v4⟩ := Am.box5c S1
        simp only [List.setIfInBounds_toArray, List.set_cons_zero, List.set_cons_succ] at S1'
        obtain ⟨c0, c1, c2', c3, c4, _⟩ := Am.box5c S1'
        obtain ⟨e0, e1, e2, e3, e4, e5, e6, e7, e8, e9⟩ := Am.box5c S2
        clear kk h M2 M3 M8 BW2 BW3 BW8 P1 Q1 Q2 R1 S1 S2 S1' S2' G1 G2 hB1 hB2 k1 k2 m1 m2 f1 f2 hs hl hl2
        go_enter Tryd.func33, Tryd.ntmps33
        go_upto_region 1 with (fail)
        rw [← hW1]
        rw [← hW2]
        clear hW1 hW2
        go_upto_region 6 with (first
          | (go_at_call 31; (with_reducible refine HL.out.mono ?_); rintro e w2 ⟨rfl, rfl⟩)
          | (go_at_call 32; (with_reducible refine HN.out.mono ?_); rintro e w2 ⟨rfl, rfl⟩))
        rw [← hW3]
        clear hW3 HL HN
        go_upto_region 7 with (at_builtin; refine wpList_append_eq rfl (.tmp 25) (.tmp 27) 33 rfl HK1.out rfl rfl ?_)
        go_wp2_with (at_builtin; refine wpList_append_eq rfl (.tmp 31) (.tmp 32) 33 rfl HK2.out rfl rfl ?_)
        rw [← hWX]
        clear hWX
        obtain ⟨q0, q1, q2, q3, q4, _⟩ := Am.box5c RES.out.2.2.1
        refine bodyPost_ret (v := .agg #[.string lb, .slice A (ns.length + 1) c, .slice A2 (ss.length + 1) c2, .string nm, .bool false]) (by simp [results, Tryd.results33, go_sem, q0, q1, q2, q3, q4]) rfl ⟨A, c, A2, c2, by first | rfl | simp [dz] | (simp; omega), RES.out.1, RES.out.2.1, RES.out.2.2.2⟩
end Go.Proofs.YtldbhcbmcogmfaaDoor

/- The document's size of a line, by its contract. -/
namespace Go.Proofs.YtldbhcbmcogmfaaDoor
open Go.RowKit Go.Lib
set_option linter.unusedVariables false
set_option maxRecDepth 8000

def Am.Szs (ss : List Int) : Prop := ∀ x ∈ ss, 1 ≤ x ∧ x ≤ 2
theorem Am.Szs.sum : ∀ {ss : List Int}, Am.Szs ss → 0 ≤ ss.sum ∧ ss.sum ≤ 2 * ss.length
  | [], _ => by simp
  | x :: r, h => by
    have a := h x (by simp)
    have b := Am.Szs.sum (ss := r) (fun y hy => h y (by simp [hy]))
    simp only [List.sum_cons, List.length_cons]
    omega
theorem Am.Szs.take {ss : List Int} (h : Am.Szs ss) (i : Nat) : Am.Szs (ss.take i) := fun x hx => h x (List.mem_of_mem_take hx)
set_option maxRecDepth 20000 in
set_option maxHeartbeats 3200000 in
theorem Am.rsize_any (lb nm : ByteArray) (wr : Bool) (B : Nat) (nA sA : Option Addr) (nn nc sc : Nat) (ns ss : List Int) (w : World) (h : Am.LnM w B (.slice nA nn nc) (.slice sA ss.length sc) ns ss) (hz : Am.Szs ss) (hl : ss.length ≤ 100) :
    Calls Tryd.prog 20 #[.agg #[.string lb, .slice nA nn nc, .slice sA ss.length sc, .string nm, .bool wr]] w fun e w' => e = .returned (.int .i64 ss.sum) ∧ w.grownBy w' none := by
  obtain ⟨W1, hW1, G1, hB1⟩ := Am.box1 w 35 #[.string lb, .slice nA nn nc, .slice sA ss.length sc, .string nm, .bool wr]
  have hr := (h.grown G1).s
  obtain ⟨a0, a1, a2, a3, a4, g0, g1, g2, g3, g4⟩ := Am.box5c hB1
  have HG := Lib.hid G1
  have HS := Lib.hid (show ∀ i (q : i < ss.length), (ss.take (i + 1)).sum = (ss.take i).sum + ss[i] ∧ 0 ≤ (ss.take i).sum ∧ (ss.take i).sum ≤ 200 ∧ 0 ≤ ss[i] ∧ ss[i] ≤ 2 from fun i q => by
    have t := (hz.take i).sum
    have l : (ss.take i).length ≤ 100 := by rw [List.length_take]; omega
    have x := hz ss[i] (List.getElem_mem q)
    refine ⟨?_, t.1, by omega, by omega, x.2⟩
    rw [← List.take_append_getElem q, List.sum_append]
    simp)
  have HF := Lib.hid (show (ss.take ss.length).sum = ss.sum from by rw [List.take_length])
  have HL := Lib.hid hl
  clear h hB1 G1 hz hl
  rcases hr with ⟨_, ⟨e, h0⟩ | ⟨g, off, cap, e, _, _, hg, _, hc⟩⟩
  · injection e with e1 e2 e3
    subst e1 e3
    have hs : ss = [] := List.eq_nil_of_length_eq_zero h0
    subst hs
    have hW1' : W1 = w.alloc (.cells #[.string lb, .slice nA nn nc, .slice none 0 0, .string nm, .bool wr] 35) := hW1
    clear hW1
    go_enter Tryd.func20, Tryd.ntmps20
    go_upto_region 1 with (fail)
    rw [← hW1']
    clear hW1'
    go_wp2
    go_loopw [3, 4] (fun n k wr => n = .int .i64 0 ∧ k = .int .i64 0 ∧ W1 = wr) (fun _ _ _ => 0)
    case atStart => exact ⟨rfl, rfl, rfl⟩
    case round =>
      obtain ⟨rfl, rfl, rfl⟩ := hrel
      go_wp2
      go_ret
      exact ⟨rfl, HG.out⟩
  · injection e with e1 e2 e3
    subst e1 e3
    have HC := Lib.hid (show ∀ i (q : i < ss.length), W1.cell? ⟨g, off + i, none⟩ = some (.int .i64 ss[i]) from fun i q => hc i _ (by simp [Am.intsC, q]))
    clear hc hg
    obtain ⟨n, hn⟩ : ∃ n, n = ss.length := ⟨_, rfl⟩
    rw [← hn] at hW1 HL HF a2 ⊢
    have HNN := Lib.hid hn
    clear hn
    go_enter Tryd.func20, Tryd.ntmps20
    go_upto_region 1 with (fail)
    rw [← hW1]
    clear hW1
    go_wp2
    go_loopw [3, 4] (fun x k wr => ∃ (i : Nat) (y : Int), x = .int .i64 y ∧ k = .int .i64 i ∧ i ≤ n ∧ Hid (y = (ss.take i).sum) ∧ W1 = wr) (fun _ k _ => n - (Go.Lib.intOf k).toNat)
    case atStart => exact ⟨0, 0, rfl, rfl, by omega, Lib.hid (by simp), rfl⟩
    case round =>
      obtain ⟨i, y, rfl, rfl, hi, HY, rfl⟩ := hrel
      have hl100 := HL.out
      by_cases hin : i < n
      · have i1 : (i : Int) < (n : Int) := by omega
        have i2 : (0 : Int) ≤ (i : Int) := by omega
        have q : i < ss.length := by rw [← HNN.out]; exact hin
        have c0 := HC.out i q
        obtain ⟨t1, t2, t3, t4, t5⟩ := HS.out i q
        rw [← HY.out] at t1 t2 t3
        obtain ⟨v, hv⟩ : ∃ v, v = ss[i]'q := ⟨_, rfl⟩
        have c0' : W1.cell? ⟨g, off + i, none⟩ = some (.int .i64 v) := by rw [hv]; exact c0
        have t1' : (ss.take (i + 1)).sum = y + v := by rw [hv]; exact t1
        have t4' : 0 ≤ v := by rw [hv]; exact t4
        have t5' : v ≤ 2 := by rw [hv]; exact t5
        have HT := Lib.hid t1'
        have u1 : IntKind.i64.wrap ((i : Int) + 1) = (i : Int) + 1 := Am.wrap_i _ (by omega) (by omega)
        have u2 : IntKind.i64.wrap (y + v) = y + v := Am.wrap_i _ (by omega) (by omega)
        have u3 : wrap64 (y + v) = y + v := IntWalk.wrap64_in _ ⟨by omega, by omega⟩
        clear c0 t1 t1' t2 t3 t4 t5 hv t4' t5' q hl100
        go_wp2
        go_roundw
        case rel => exact ⟨i + 1, y + v, rfl, by go_num, by omega, Lib.hid HT.out.symm, by first | rfl | trivial⟩
        case measure => simp [Go.Lib.intOf] <;> omega
      · obtain rfl : i = n := by omega
        have HE := Lib.hid (show y = ss.sum from by rw [HY.out, HF.out])
        go_wp2
        go_ret
        exact ⟨by rw [← HE.out]; rfl, HG.out⟩
end Go.Proofs.YtldbhcbmcogmfaaDoor

/- The document's lines in a row; a label's place among them. -/
namespace Go.Proofs.YtldbhcbmcogmfaaDoor
open Go.RowKit Go.Lib
set_option linter.unusedVariables false
set_option maxRecDepth 8000

structure Am.RL where
  lb : List UInt8
  nm : List UInt8
  ns : List Int
  ss : List Int
def Am.rl0 : Am.RL := ⟨[], [], [], []⟩
abbrev Am.SC := Option Addr × Nat
def Am.rlC (r : Am.RL) (e : Am.SC × Am.SC) : List Value := [.string ⟨r.lb.toArray⟩, .slice e.1.1 r.ns.length e.1.2, .slice e.2.1 r.ss.length e.2.2, .string ⟨r.nm.toArray⟩, .bool false]
def Am.rlL (L : List Am.RL) (E : Nat → Am.SC × Am.SC) : List Value := (List.range L.length).flatMap fun i => Am.rlC (L.getD i Am.rl0) (E i)
def Am.Fit (r : Am.RL) : Prop := Am.Szs r.ss ∧ r.ss.length ≤ 3 ∧ r.ns.length = r.ss.length
/-- The lines so far, in a row of the call's own. -/
structure Am.LsE (w : World) (B : Nat) (v : Value) (L : List Am.RL) (E : Nat → Am.SC × Am.SC) : Prop where
  row : RowZ 5 w v L.length (Am.rlL L E)
  own : ∀ k, v.ownBlock = some k → B ≤ k
  ln : ∀ i, i < L.length → Am.LnM w B (.slice (E i).1.1 (L.getD i Am.rl0).ns.length (E i).1.2) (.slice (E i).2.1 (L.getD i Am.rl0).ss.length (E i).2.2) (L.getD i Am.rl0).ns (L.getD i Am.rl0).ss ∧ Am.Fit (L.getD i Am.rl0)
  ne : ∀ i k, i < L.length → v.ownBlock = some k → (Value.slice (E i).1.1 (L.getD i Am.rl0).ns.length (E i).1.2).ownBlock ≠ some k ∧ (Value.slice (E i).2.1 (L.getD i Am.rl0).ss.length (E i).2.2).ownBlock ≠ some k
def Am.LsV (w : World) (B : Nat) (v : Value) (L : List Am.RL) : Prop := ∃ E, Am.LsE w B v L E
theorem Am.LsE.grown {w w' : World} {B : Nat} {v : Value} {L : List Am.RL} {E : Nat → Am.SC × Am.SC} (h : Am.LsE w B v L E) (g : w.grownBy w' none) : Am.LsE w' B v L E :=
  ⟨h.row.grown g, h.own, fun i hi => ⟨(h.ln i hi).1.grown g, (h.ln i hi).2⟩, h.ne⟩
theorem Am.LsE.kept {w w' : World} {B : Nat} {v : Value} {L : List Am.RL} {E : Nat → Am.SC × Am.SC} (h : Am.LsE w B v L E) (g : Below w.heap.size w w') : Am.LsE w' B v L E :=
  ⟨h.row.below g h.row.lt, h.own, fun i hi => ⟨(h.ln i hi).1.kept g, (h.ln i hi).2⟩, h.ne⟩
/-- Where a label is among lines; -1: nowhere. -/
def Am.plc : List Am.RL → List UInt8 → Int → Int
  | [], _, _ => -1
  | r :: t, nm, n => if r.lb = nm then n else Am.plc t nm (n + r.ss.sum)
theorem Am.getD_drop {L : List Am.RL} {i : Nat} (h : i < L.length) : L.drop i = L.getD i Am.rl0 :: L.drop (i + 1) := by
  rw [List.drop_eq_getElem_cons h]
  simp [List.getD, h]
theorem Am.Fit.sum {r : Am.RL} (h : Am.Fit r) : 0 ≤ r.ss.sum ∧ r.ss.sum ≤ 6 := by
  obtain ⟨a, b, _⟩ := h
  have := a.sum
  omega
theorem Am.rl_cells {w : World} {g off n c B : Nat} {L : List Am.RL} {E : Nat → Am.SC × Am.SC} (h : Am.LsE w B (.slice (some ⟨g, off, none⟩) n c) L E) (i : Nat) (hi : i < L.length) :
    w.cell? ⟨g, off + i * 5, none⟩ = some (.string ⟨(L.getD i Am.rl0).lb.toArray⟩) ∧ w.cell? ⟨g, off + i * 5 + 1, none⟩ = some (.slice (E i).1.1 (L.getD i Am.rl0).ns.length (E i).1.2) ∧ w.cell? ⟨g, off + i * 5 + 2, none⟩ = some (.slice (E i).2.1 (L.getD i Am.rl0).ss.length (E i).2.2) ∧ w.cell? ⟨g, off + i * 5 + 3, none⟩ = some (.string ⟨(L.getD i Am.rl0).nm.toArray⟩) ∧ w.cell? ⟨g, off + i * 5 + 4, none⟩ = some (.bool false) := by
  rcases h.row with ⟨_, ⟨e, h0⟩ | ⟨g', off', cap, e, _, _, _, _, hc⟩⟩
  · exact absurd hi (by omega)
  · injection e with e1 e2 e3
    injection e1 with e1
    injection e1 with e4 e5
    subst e4 e5
    have k : ∀ t, t < 5 → (Am.rlL L E)[i * 5 + t]? = (Am.rlC (L.getD i Am.rl0) (E i))[t]? := fun t ht => kflat_get (fun i => Am.rlC (L.getD i Am.rl0) (E i)) 5 (fun i => rfl) L.length i t hi ht
    refine ⟨hc _ _ (k 0 (by decide)), ?_, ?_, ?_, ?_⟩
    · exact (congrArg (fun x => w.cell? ⟨g, x, none⟩) (Nat.add_assoc off (i * 5) 1)).trans (hc _ _ (k 1 (by decide)))
    · exact (congrArg (fun x => w.cell? ⟨g, x, none⟩) (Nat.add_assoc off (i * 5) 2)).trans (hc _ _ (k 2 (by decide)))
    · exact (congrArg (fun x => w.cell? ⟨g, x, none⟩) (Nat.add_assoc off (i * 5) 3)).trans (hc _ _ (k 3 (by decide)))
    · exact (congrArg (fun x => w.cell? ⟨g, x, none⟩) (Nat.add_assoc off (i * 5) 4)).trans (hc _ _ (k 4 (by decide)))
set_option maxRecDepth 20000 in
set_option maxHeartbeats 3200000 in
theorem Am.rplace_any (B : Nat) (A : Option Addr) (n c : Nat) (L : List Am.RL) (name : ByteArray) (w : World) (h : Am.LsV w B (.slice A n c) L) (hn : n = L.length) (hl : L.length ≤ 3000) :
    Calls Tryd.prog 16 #[.slice A n c, .string name] w fun e w' => e = .returned (.int .i64 (Am.plc L name.data.toList 0)) ∧ w.grownBy w' none := by
  obtain ⟨E, h⟩ := h
  have HH := Lib.hid h
  have HN := Lib.hid hn
  have HL := Lib.hid hl
  have HG : ∀ i, i < n → ∃ g off, A = some ⟨g, off, none⟩ := fun i hi => by
    rcases h.row with ⟨_, ⟨e, h0⟩ | ⟨g', off', cap, e, _⟩⟩
    · exact absurd hi (by omega)
    · injection e with e1 e2 e3
      exact ⟨g', off', e1⟩
  have HA := Lib.hid HG
  have HP : Hid (Am.plc L name.data.toList 0 = Am.plc (L.drop 0) name.data.toList 0) := Lib.hid rfl
  have HZ := Lib.hid (show Am.plc (L.drop n) name.data.toList = fun _ => -1 from by rw [hn, List.drop_length]; rfl)
  generalize Am.plc L name.data.toList 0 = r at *
  clear h hn hl HG
  go_enter Tryd.func16, Tryd.ntmps16
  go_wp2
  go_loopw [5, 6] (fun x k wr => ∃ (i : Nat) (y : Int), x = .int .i64 y ∧ k = .int .i64 i ∧ i ≤ n ∧ Hid (0 ≤ y ∧ y ≤ 6 * i) ∧ Hid (r = Am.plc (L.drop i) name.data.toList y) ∧ Hid (w.grownBy wr none)) (fun _ k _ => n - (Go.Lib.intOf k).toNat)
  case atStart => exact ⟨0, 0, rfl, rfl, by omega, Lib.hid (by omega), HP, Lib.hid (only_refl _ _)⟩
  case round =>
    obtain ⟨i, y, rfl, rfl, hi, HY, HI, HW⟩ := hrel
    by_cases hin : i < n
    · obtain ⟨g, off, rfl⟩ := HA.out i hin
      have q : i < L.length := by have := HN.out; omega
      have i1 : (i : Int) < (n : Int) := by omega
      have i2 : (0 : Int) ≤ (i : Int) := by omega
      have HWR := HH.out.grown HW.out
      obtain ⟨c0, c1, c2, c3, c4⟩ := Am.rl_cells HWR i q
      obtain ⟨hm, hf⟩ := HWR.ln i q
      have HI2 := Lib.hid (show r = if (L.getD i Am.rl0).lb = name.data.toList then y else Am.plc (L.drop (i + 1)) name.data.toList (y + (L.getD i Am.rl0).ss.sum) from by rw [HI.out, Am.getD_drop q]; rfl)
      obtain ⟨R, hR⟩ : ∃ R, R = L.getD i Am.rl0 := ⟨_, rfl⟩
      rw [← hR] at c0 c1 c2 c3 hm hf HI2
      have HSZ := Lib.hid (Am.rsize_any ⟨R.lb.toArray⟩ ⟨R.nm.toArray⟩ false B _ _ _ _ _ _ _ wr hm hf.1 (by have := hf.2.1; omega))
      have hsum := hf.sum
      clear hm hf HWR hR HI
      obtain ⟨S, hS⟩ : ∃ S, S = R.ss.sum := ⟨_, rfl⟩
      rw [← hS] at HI2 HSZ hsum
      have hy := HY.out
      have hi3 : i ≤ 3000 := by have := HL.out; omega
      have u1 : IntKind.i64.wrap ((i : Int) + 1) = (i : Int) + 1 := Am.wrap_i _ (by omega) (by omega)
      have u2 : IntKind.i64.wrap (y + S) = y + S := Am.wrap_i _ (by omega) (by omega)
      have u3 : wrap64 (y + S) = y + S := IntWalk.wrap64_in _ ⟨by omega, by omega⟩
      have HY2 := Lib.hid (show 0 ≤ y + S ∧ y + S ≤ 6 * ((i + 1 : Nat) : Int) from by omega)
      clear hS hsum hy hi3 q
      obtain ⟨lb, hlb⟩ : ∃ lb : ByteArray, lb = ⟨R.lb.toArray⟩ := ⟨_, rfl⟩
      have hlb' : R.lb = lb.data.toList := by rw [hlb]
      rw [← hlb] at c0 HSZ
      rw [hlb'] at HI2
      clear hlb hlb'
      by_cases he : lb = name
      · subst he
        have HE := Lib.hid (show r = y from by rw [HI2.out, if_pos rfl])
        go_wp2
        go_ret
        exact ⟨by rw [HE.out]; rfl, HW.out⟩
      · have HE := Lib.hid (show r = Am.plc (L.drop (i + 1)) name.data.toList (y + S) from by
          rw [HI2.out, if_neg]
          intro e
          apply he
          obtain ⟨⟨a⟩⟩ := lb
          obtain ⟨⟨b⟩⟩ := name
          simp at e
          rw [e])
        have e1 := str_ne19 he
        go_wp2_with (go_at_call 20; (with_reducible refine HSZ.out.mono ?_); rintro e w2 ⟨rfl, g2⟩; have HW2 := Lib.hid (only_trans HW.out g2); clear g2)
        go_roundw
        case rel => exact ⟨i + 1, y + S, rfl, by go_num, by omega, HY2, HE, HW2⟩
        case measure => simp [Go.Lib.intOf] <;> omega
    · obtain rfl : i = n := by omega
      have HE := Lib.hid (show r = -1 from by rw [HI.out, HZ.out])
      go_wp2
      go_ret
      exact ⟨by rw [HE.out]; rfl, HW.out⟩
end Go.Proofs.YtldbhcbmcogmfaaDoor
