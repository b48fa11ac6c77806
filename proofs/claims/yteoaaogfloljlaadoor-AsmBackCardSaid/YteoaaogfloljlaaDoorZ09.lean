import Derived.Test.YteoaaogfloljlaaDoorZ02
import Derived.Lib.ItoaNum
import Derived.Test.YteoaaogfloljlaaDoorZ08
import Derived.Shelf.Strings.Builder1
import Derived.Shelf.Strconv.Itoa3
import Derived.LoopTactic
import Derived.Test.YteoaaogfloljlaaDoorZ03
set_option linter.all false
/- What is printed is read again, in plain form. -/
namespace Go.Proofs.YteoaaogfloljlaaDoor
open Go.RowKit Go.Lib
set_option linter.unusedVariables false

theorem Bk.one_dg (u : Nat) (h : u < 10) : decDigits u = [UInt8.ofNat (48 + u)] := by rw [decDigits, dif_pos h]
theorem Bk.more_dg (u : Nat) (h : ¬ u < 10) : decDigits u = decDigits (u / 10) ++ [UInt8.ofNat (48 + u % 10)] := by rw [decDigits, dif_neg h]
theorem Bk.dg_nat (d : Nat) (h : d < 10) : (UInt8.ofNat (48 + d)).toNat = 48 + d := by
  rw [UInt8.toNat_ofNat']
  omega
theorem Bk.digits : ∀ (u : Nat), ∀ c ∈ decDigits u, 48 ≤ c.toNat ∧ c.toNat ≤ 57 := by
  intro u
  induction u using Nat.strongRecOn with
  | _ u ih =>
    intro c hc
    by_cases h : u < 10
    · rw [Bk.one_dg u h, List.mem_singleton] at hc
      rw [hc, Bk.dg_nat u h]
      omega
    · rw [Bk.more_dg u h, List.mem_append, List.mem_singleton] at hc
      rcases hc with hc | rfl
      · exact ih (u / 10) (by omega) c hc
      · rw [Bk.dg_nat _ (by omega)]
        omega
theorem Bk.some_dg (u : Nat) : decDigits u ≠ [] := by
  by_cases h : u < 10
  · rw [Bk.one_dg u h]; simp
  · rw [Bk.more_dg u h]; simp
theorem Bk.head_dg : ∀ (u : Nat), 1 ≤ u → (decDigits u).head? ≠ some 48 := by
  intro u
  induction u using Nat.strongRecOn with
  | _ u ih =>
    intro h1
    by_cases h : u < 10
    · rw [Bk.one_dg u h]
      intro e
      injection e with e
      have := congrArg UInt8.toNat e
      rw [Bk.dg_nat u h] at this
      have h48 : (48 : UInt8).toNat = 48 := rfl
      omega
    · rw [Bk.more_dg u h]
      have := ih (u / 10) (by omega) (by omega)
      obtain ⟨a, r, e⟩ := List.exists_cons_of_ne_nil (Bk.some_dg (u / 10))
      rw [e] at this ⊢
      exact this
theorem Bk.len_dg : ∀ (k u : Nat), u < 10 ^ (k + 1) → (decDigits u).length ≤ k + 1
  | 0, u, h => by rw [Bk.one_dg u (by simpa using h)]; simp
  | k + 1, u, h => by
    by_cases c : u < 10
    · rw [Bk.one_dg u c]; simp
    · rw [Bk.more_dg u c, List.length_append]
      have := Bk.len_dg k (u / 10) (by rw [Nat.pow_succ] at h; omega)
      simp
      omega
theorem Bk.dec_dg (most : Nat) : ∀ (u : Nat) (r : List UInt8), u ≤ most → Am.dec most (decDigits u ++ r) 0 = Am.dec most r u := by
  intro u
  induction u using Nat.strongRecOn with
  | _ u ih =>
    intro r hu
    by_cases h : u < 10
    · rw [Bk.one_dg u h, List.singleton_append, Am.dec, Bk.dg_nat u h, if_neg (by omega), if_neg (by omega)]
      congr 1
      omega
    · rw [Bk.more_dg u h, List.append_assoc, ih (u / 10) (by omega) _ (by omega), List.singleton_append, Am.dec, Bk.dg_nat _ (by omega), if_neg (by omega), if_neg (by omega)]
      congr 1
      omega
theorem Bk.num_dg (most u : Nat) (h : u ≤ most) : Am.num (decDigits u) most = some u := by
  unfold Am.num
  rw [if_neg]
  · have := Bk.dec_dg most u [] h
    rw [List.append_nil] at this
    rw [this]
    rfl
  · rintro (e | ⟨e1, e2⟩)
    · exact Bk.some_dg u e
    · rcases Nat.eq_zero_or_pos u with rfl | h1
      · rw [Bk.one_dg 0 (by omega)] at e1
        simp at e1
      · exact Bk.head_dg u h1 e2
theorem Bk.reg_dg (u : Nat) (h : u ≤ 7) : Am.reg (114 :: decDigits u) = some u := by
  unfold Am.reg
  have e : (114 :: decDigits u).head? = some 114 := rfl
  rw [if_pos e]
  exact Bk.num_dg 7 u h
theorem Bk.name_dg (u : Nat) : Am.isName (decDigits u) = false := by
  unfold Am.isName
  obtain ⟨a, r, e⟩ := List.exists_cons_of_ne_nil (Bk.some_dg u)
  have h := Bk.digits u a (by rw [e]; simp)
  rw [e]
  have : (decide (97 ≤ a.toNat)) = false := decide_eq_false (by omega)
  simp [this]
theorem Bk.val_dg (u : Nat) (h : u ≤ 65535) : Am.val (decDigits u) = some (u, []) := by
  unfold Am.val
  rw [Bk.name_dg, if_neg (by simp), Bk.num_dg 65535 u h]
  rfl
/-- An instruction's words, and its line. -/
def Bk.ws (k x n : Nat) : List (List UInt8) := if k = 0 ∨ k = 15 then [] else if k = 11 then [decDigits n] else if k = 14 then [114 :: decDigits x, decDigits n] else if rgB k = true then [114 :: decDigits x, 114 :: decDigits n] else [114 :: decDigits x, decDigits n]
def Bk.join : List (List UInt8) → List UInt8
  | [] => []
  | w :: r => 32 :: (w ++ Bk.join r)
def Bk.sen (k x n : Nat) : List UInt8 := nmX k ++ Bk.join (Bk.ws k x n)
theorem Bk.spl_join : ∀ (l : List (List UInt8)) (a : List UInt8), (32 : UInt8) ∉ a → (∀ w ∈ l, (32 : UInt8) ∉ w) → Am.spl 32 (a ++ Bk.join l) = a :: l
  | [], a, ha, _ => by rw [Bk.join, List.append_nil]; exact Am.spl_none 32 a ha
  | w :: r, a, ha, hl => by
    rw [Bk.join, Am.spl_at 32 a _ ha, Bk.spl_join r w (hl w (by simp)) (fun v hv => hl v (by simp [hv]))]
/-- What a sentence's letters are not. -/
def Bk.ok (c : UInt8) : Prop := c ≠ 10 ∧ c ≠ 58 ∧ c ≠ 35
theorem Bk.dg_not (u : Nat) (c : UInt8) (h : c ∈ decDigits u) : c ≠ 32 ∧ Bk.ok c := by
  have hd := Bk.digits u c h
  refine ⟨?_, ?_, ?_, ?_⟩ <;> (rintro rfl; revert hd; decide)
theorem Bk.nm_not : ∀ i : Fin 16, ∀ c ∈ nmX i.val, c ≠ 32 ∧ c ≠ 10 ∧ c ≠ 58 ∧ c ≠ 35 := by decide +kernel
theorem Bk.ws_all (P : List UInt8 → Prop) (k x n : Nat) (h1 : ∀ u, P (decDigits u)) (h2 : ∀ u, P (114 :: decDigits u)) : ∀ w ∈ Bk.ws k x n, P w := by
  intro w hw
  unfold Bk.ws at hw
  split at hw
  · simp at hw
  · split at hw
    · simp at hw; subst hw; exact h1 n
    · split at hw
      · simp at hw; rcases hw with rfl | rfl
        · exact h2 x
        · exact h1 n
      · split at hw
        · simp at hw; rcases hw with rfl | rfl
          · exact h2 x
          · exact h2 n
        · simp at hw; rcases hw with rfl | rfl
          · exact h2 x
          · exact h1 n
theorem Bk.join_ok : ∀ (l : List (List UInt8)), (∀ w ∈ l, ∀ c ∈ w, Bk.ok c) → ∀ c ∈ Bk.join l, Bk.ok c
  | [], _, c, h => by simp [Bk.join] at h
  | w :: r, hl, c, h => by
    rw [Bk.join, List.mem_cons, List.mem_append] at h
    rcases h with rfl | h | h
    · unfold Bk.ok; decide
    · exact hl w (by simp) c h
    · exact Bk.join_ok r (fun v hv => hl v (by simp [hv])) c h
theorem Bk.sen_ok (k x n : Nat) (hk : k < 16) : ∀ c ∈ Bk.sen k x n, Bk.ok c := by
  intro c h
  unfold Bk.sen at h
  rw [List.mem_append] at h
  rcases h with h | h
  · exact (Bk.nm_not ⟨k, hk⟩ c h).2
  · refine Bk.join_ok _ (Bk.ws_all (fun w => ∀ c ∈ w, Bk.ok c) k x n (fun u c hc => (Bk.dg_not u c hc).2) (fun u c hc => ?_)) c h
    rw [List.mem_cons] at hc
    rcases hc with rfl | hc
    · unfold Bk.ok; decide
    · exact (Bk.dg_not u c hc).2
theorem Bk.nd_all : ∀ i : Fin 16, ndV ⟨(nmX i.val).toArray⟩ = ((i.val : Int), true) := by decide +kernel
theorem Bk.nm_own : ∀ i : Fin 16, nmX i.val ≠ [98, 121, 116, 101] ∧ nmX i.val ≠ [116, 119, 111] ∧ nmX i.val ≠ [] := by decide +kernel
theorem Bk.ins_ws (k x n : Nat) (hk : k < 16) (hx : (x : Int) ≤ mxX k) (hn : (n : Int) ≤ mxN k) : Am.ins k (Bk.ws k x n) = some (Am.pt k x n, []) := by
  have hx7 : x ≤ 7 := by unfold mxX at hx; split at hx <;> omega
  have hn6 : n ≤ 65535 := by unfold mxN at hn; split at hn <;> (try split at hn) <;> omega
  unfold Am.ins Bk.ws
  by_cases h0 : k = 0 ∨ k = 15
  · rw [if_pos h0, if_pos h0, if_pos rfl]
    have e1 : x = 0 := by rcases h0 with rfl | rfl <;> (unfold mxX at hx; simp at hx; omega)
    have e2 : n = 0 := by rcases h0 with rfl | rfl <;> (unfold mxN at hn; simp at hn; omega)
    rw [e1, e2]
  · rw [if_neg h0, if_neg h0]
    by_cases h11 : k = 11
    · rw [if_pos h11, if_pos h11]
      have e1 : x = 0 := by subst h11; unfold mxX at hx; simp at hx; omega
      simp only [List.length_cons, List.length_nil, if_true, List.getD_cons_zero]
      rw [Bk.val_dg n hn6, e1]
      rfl
    · rw [if_neg h11, if_neg h11]
      by_cases h14 : k = 14
      · rw [if_pos h14]
        simp only [List.length_cons, List.length_nil, if_true, List.getD_cons_zero, List.getD_cons_succ]
        rw [Bk.reg_dg x hx7, Bk.num_dg 65535 n hn6]
        simp [h14]
      · rw [if_neg h14]
        by_cases hr : rgB k = true
        · rw [if_pos hr]
          have e2 : n ≤ 7 := by
            have h2 : 2 ≤ k ∧ k ≤ 10 := by unfold rgB at hr; simpa using hr
            unfold mxN at hn
            split at hn <;> (try split at hn) <;> omega
          simp only [List.length_cons, List.length_nil, if_true, List.getD_cons_zero, List.getD_cons_succ]
          rw [Bk.reg_dg x hx7, Bk.reg_dg n e2]
          simp [h14, hr]
        · rw [if_neg hr]
          simp only [List.length_cons, List.length_nil, if_true, List.getD_cons_zero, List.getD_cons_succ]
          rw [Bk.reg_dg x hx7, Bk.val_dg n hn6]
          simp [h14, hr]
theorem Bk.line_sen (k x n : Nat) (hk : k < 16) (hx : (x : Int) ≤ mxX k) (hn : (n : Int) ≤ mxN k) : Am.line (Bk.sen k x n) = ⟨2, Am.pt k x n, []⟩ := by
  obtain ⟨n1, n2, n3⟩ := Bk.nm_own ⟨k, hk⟩
  have hok := Bk.sen_ok k x n hk
  have hne : Bk.sen k x n ≠ [] := by unfold Bk.sen; simp [n3]
  have hsp : Am.spl 32 (Bk.sen k x n) = nmX k :: Bk.ws k x n := Bk.spl_join _ _ (fun h => (Bk.nm_not ⟨k, hk⟩ 32 h).1 rfl) (Bk.ws_all (fun w => (32 : UInt8) ∉ w) k x n (fun u h => (Bk.dg_not u 32 h).1 rfl) (fun u h => by
    rw [List.mem_cons] at h
    rcases h with h | h
    · revert h; decide
    · exact (Bk.dg_not u 32 h).1 rfl))
  unfold Am.line
  rw [if_neg, if_neg]
  · rw [hsp]
    simp only [List.headD_cons, List.tail_cons]
    unfold Am.sen
    rw [if_neg n1, if_neg n2]
    have hnd := Bk.nd_all ⟨k, hk⟩
    simp only at hnd
    rw [hnd]
    simp only [if_true, Int.toNat_natCast]
    rw [Bk.ins_ws k x n hk hx hn]
    rfl
  · intro h
    exact (hok 58 (List.mem_of_getLast? h)).2.1 rfl
  · rintro (h | h)
    · exact hne h
    · exact (hok 35 (List.mem_of_head? h)).2.2 rfl
/-- An instruction. -/
structure Bk.I where
  k : Nat
  x : Int
  n : Int
def Bk.may (i : Bk.I) : Bool := mayI i.k i.x i.n
def Bk.ln (i : Bk.I) : List UInt8 := Bk.sen i.k i.x.toNat i.n.toNat
def Bk.pt (i : Bk.I) : List UInt8 := Am.pt i.k i.x.toNat i.n.toNat
def Bk.txt : List Bk.I → List UInt8
  | [] => []
  | i :: l => Bk.ln i ++ 10 :: Bk.txt l
def Bk.prg : List Bk.I → List UInt8
  | [] => []
  | i :: l => Bk.pt i ++ Bk.prg l
theorem Bk.may_facts {i : Bk.I} (h : Bk.may i = true) : i.k < 16 ∧ ((i.x.toNat : Nat) : Int) ≤ mxX i.k ∧ ((i.n.toNat : Nat) : Int) ≤ mxN i.k := by
  obtain ⟨h1, h2, h3⟩ := mayI_iff.1 h
  exact ⟨h1, by omega, by omega⟩
theorem Bk.line_ln {i : Bk.I} (h : Bk.may i = true) : Am.line (Bk.ln i) = ⟨2, Bk.pt i, []⟩ := by
  obtain ⟨h1, h2, h3⟩ := Bk.may_facts h
  exact Bk.line_sen _ _ _ h1 h2 h3
theorem Bk.spl_txt : ∀ (l : List Bk.I), (∀ i ∈ l, Bk.may i = true) → Am.spl 10 (Bk.txt l) = l.map Bk.ln ++ [[]]
  | [], _ => rfl
  | i :: l, h => by
    have hn : (10 : UInt8) ∉ Bk.ln i := fun q => (Bk.sen_ok _ _ _ (Bk.may_facts (h i (by simp))).1 10 q).1 rfl
    rw [Bk.txt, Am.spl_at 10 _ _ hn, Bk.spl_txt l (fun j hj => h j (by simp [hj]))]
    rfl
theorem Bk.go_txt : ∀ (l : List Bk.I) (i : Nat) (p : List UInt8), (∀ j ∈ l, Bk.may j = true) → p.length + 4 * l.length ≤ 1024 → Am.go i (l.map Bk.ln ++ [[]]) ⟨p, [], []⟩ = (0, 0, ⟨p ++ Bk.prg l, [], []⟩)
  | [], i, p, _, _ => by
    have e : Am.line [] = ⟨0, [], []⟩ := by unfold Am.line; rw [if_pos (Or.inl rfl)]
    simp [Am.go, e, Am.one, Bk.prg]
  | a :: l, i, p, h, hl => by
    have hpt : (Bk.pt a).length = 4 := rfl
    simp only [List.length_cons] at hl
    have e1 : Am.one (i + 1) (Am.line (Bk.ln a)) ⟨p, [], []⟩ = (0, ⟨p ++ Bk.pt a, [], []⟩) := by
      rw [Bk.line_ln (h a (by simp))]
      unfold Am.one
      simp only [hpt]
      have hc : ¬ 1024 < p.length + 4 := by omega
      simp [hc]
    rw [List.map_cons, List.cons_append, Am.go, e1, if_pos rfl]
    have ih := Bk.go_txt l (i + 1) (p ++ Bk.pt a) (fun j hj => h j (by simp [hj])) (by rw [List.length_append, hpt]; omega)
    rw [ih, Bk.prg, List.append_assoc]
theorem Bk.ln_len {i : Bk.I} (h : Bk.may i = true) : (Bk.ln i).length ≤ 20 := by
  obtain ⟨h1, h2, h3⟩ := Bk.may_facts h
  have hx7 : i.x.toNat < 100000 := by unfold mxX at h2; split at h2 <;> omega
  have hn6 : i.n.toNat < 100000 := by unfold mxN at h3; split at h3 <;> (try split at h3) <;> omega
  have d1 := Bk.len_dg 4 _ hx7
  have d2 := Bk.len_dg 4 _ hn6
  have hn : (nmX i.k).length ≤ 6 := (show ∀ j : Fin 16, (nmX j.val).length ≤ 6 by decide +kernel) ⟨i.k, h1⟩
  unfold Bk.ln Bk.sen Bk.ws
  rw [List.length_append]
  split
  · simp [Bk.join]; omega
  · split
    · simp [Bk.join]; omega
    · split
      · simp [Bk.join]; omega
      · split <;> (simp [Bk.join]; omega)
theorem Bk.txt_len : ∀ (l : List Bk.I), (∀ i ∈ l, Bk.may i = true) → (Bk.txt l).length ≤ 21 * l.length
  | [], _ => by simp [Bk.txt]
  | i :: l, h => by
    have h1 := Bk.ln_len (h i (by simp))
    have h2 := Bk.txt_len l (fun j hj => h j (by simp [hj]))
    rw [Bk.txt, List.length_append, List.length_cons, List.length_cons]
    omega
/-- What is printed is read again. -/
theorem Bk.read_txt (l : List Bk.I) (h : ∀ i ∈ l, Bk.may i = true) (hl : l.length ≤ 100) : Am.read (Bk.txt l) = (0, 0, Bk.prg l, []) := by
  have h1 := Bk.txt_len l h
  have h2 := Bk.go_txt l 0 [] h (by simp; omega)
  unfold Am.read
  rw [if_neg (by omega), Bk.spl_txt l h]
  unfold Am.st0
  rw [h2]
  rfl
end Go.Proofs.YteoaaogfloljlaaDoor

/- Package asm: the library's builder and numerals, at this program. -/
namespace Go.Proofs
open Go.Shelf
def Tryd.bld169_ren : Go.Shelf.Ren := ⟨fun | 169 => 15 | n => n, fun | 70 => 44 | 9 => 9 | 0 => 0 | 72 => 46 | 37 => 34 | 127 => 64 | 3 => 3 | 5 => 5 | n => n, fun | n => n⟩
theorem Tryd.bld169 : Go.Proofs.Lays.n169 Tryd.prog Tryd.bld169_ren := {
  mixed := by kernel_rfl
  f169 := Tryd.func15.trans (congrArg some (by kernel_rfl))
  t0 := Tryd.underlying0
  a0 := Tryd.isAgg0
  z0 := Tryd.sizeOf0
  v0 := Tryd.zeroValue0
  t3 := Tryd.underlying3
  a3 := Tryd.isAgg3
  z3 := Tryd.sizeOf3
  v3 := Tryd.zeroValue3
  t9 := Tryd.underlying9
  a9 := Tryd.isAgg9
  z9 := Tryd.sizeOf9
  v9 := Tryd.zeroValue9
  t37 := Tryd.underlying34
  a37 := Tryd.isAgg34
  z37 := Tryd.sizeOf34
  v37 := Tryd.zeroValue34
  t70 := Tryd.underlying44
  a70 := Tryd.isAgg44
  z70 := Tryd.sizeOf44
  v70 := Tryd.zeroValue44
  t72 := Tryd.underlying46
  a72 := Tryd.isAgg46
  z72 := Tryd.sizeOf46
  v72 := Tryd.zeroValue46
  t127 := Tryd.underlying64
  a127 := Tryd.isAgg64
  z127 := Tryd.sizeOf64
  v127 := Tryd.zeroValue64 }
def Tryd.itoM_ren : Go.Shelf.Ren := ⟨fun | 171 => 27 | 243 => 37 | 246 => 49 | 283 => 57 | 284 => 58 | 285 => 59 | 286 => 60 | 129 => 71 | 317 => 70 | 318 => 72 | 319 => 73 | 320 => 74 | 337 => 83 | 338 => 84 | n => n, fun | 3 => 3 | 9 => 9 | 2 => 2 | 4 => 4 | 171 => 100 | 0 => 0 | 53 => 101 | 37 => 34 | 5 => 5 | 173 => 104 | 212 => 116 | 51 => 117 | 20 => 20 | 213 => 118 | 46 => 99 | 232 => 130 | 233 => 131 | n => n, fun | 17 => 1 | 18 => 5 | 19 => 6 | n => n⟩
theorem Tryd.itoM : Go.Proofs.LaysM.n171 Tryd.prog Tryd.itoM_ren := {
  mixed := by kernel_rfl
  f129 := Tryd.func71.trans (congrArg some (by kernel_rfl))
  f171 := Tryd.func27.trans (congrArg some (by kernel_rfl))
  f243 := Tryd.func37.trans (congrArg some (by kernel_rfl))
  f246 := Tryd.func49.trans (congrArg some (by kernel_rfl))
  f283 := Tryd.func57.trans (congrArg some (by kernel_rfl))
  f284 := Tryd.func58.trans (congrArg some (by kernel_rfl))
  f285 := Tryd.func59.trans (congrArg some (by kernel_rfl))
  f286 := Tryd.func60.trans (congrArg some (by kernel_rfl))
  f317 := Tryd.func70.trans (congrArg some (by kernel_rfl))
  f318 := Tryd.func72.trans (congrArg some (by kernel_rfl))
  f319 := Tryd.func73.trans (congrArg some (by kernel_rfl))
  f320 := Tryd.func74.trans (congrArg some (by kernel_rfl))
  f337 := Tryd.func83.trans (congrArg some (by kernel_rfl))
  f338 := Tryd.func84.trans (congrArg some (by kernel_rfl))
  t0 := Tryd.underlying0
  a0 := Tryd.isAgg0
  z0 := Tryd.sizeOf0
  v0 := Tryd.zeroValue0
  t2 := Tryd.underlying2
  a2 := Tryd.isAgg2
  z2 := Tryd.sizeOf2
  v2 := Tryd.zeroValue2
  t3 := Tryd.underlying3
  a3 := Tryd.isAgg3
  z3 := Tryd.sizeOf3
  v3 := Tryd.zeroValue3
  t4 := Tryd.underlying4
  a4 := Tryd.isAgg4
  z4 := Tryd.sizeOf4
  v4 := Tryd.zeroValue4
  t5 := Tryd.underlying5
  a5 := Tryd.isAgg5
  z5 := Tryd.sizeOf5
  v5 := Tryd.zeroValue5
  t9 := Tryd.underlying9
  a9 := Tryd.isAgg9
  z9 := Tryd.sizeOf9
  v9 := Tryd.zeroValue9
  t20 := Tryd.underlying20
  a20 := Tryd.isAgg20
  z20 := Tryd.sizeOf20
  v20 := Tryd.zeroValue20
  t37 := Tryd.underlying34
  a37 := Tryd.isAgg34
  z37 := Tryd.sizeOf34
  v37 := Tryd.zeroValue34
  t46 := Tryd.underlying99
  a46 := Tryd.isAgg99
  z46 := Tryd.sizeOf99
  v46 := Tryd.zeroValue99
  t51 := Tryd.underlying117
  a51 := Tryd.isAgg117
  z51 := Tryd.sizeOf117
  v51 := Tryd.zeroValue117
  t53 := Tryd.underlying101
  a53 := Tryd.isAgg101
  z53 := Tryd.sizeOf101
  v53 := Tryd.zeroValue101
  t171 := Tryd.underlying100
  a171 := Tryd.isAgg100
  z171 := Tryd.sizeOf100
  v171 := Tryd.zeroValue100
  t173 := Tryd.underlying104
  a173 := Tryd.isAgg104
  z173 := Tryd.sizeOf104
  v173 := Tryd.zeroValue104
  t212 := Tryd.underlying116
  a212 := Tryd.isAgg116
  z212 := Tryd.sizeOf116
  v212 := Tryd.zeroValue116
  t213 := Tryd.underlying118
  a213 := Tryd.isAgg118
  z213 := Tryd.sizeOf118
  t232 := Tryd.underlying130
  a232 := Tryd.isAgg130
  z232 := Tryd.sizeOf130
  v232 := Tryd.zeroValue130
  t233 := Tryd.underlying131
  a233 := Tryd.isAgg131
  z233 := Tryd.sizeOf131
  v233 := Tryd.zeroValue131
  g17 := by kernel_rfl
  g18 := by kernel_rfl
  g19 := by kernel_rfl
  i0 := by kernel_rfl
  i2 := by kernel_rfl
  i3 := by kernel_rfl
  i4 := by kernel_rfl
  i5 := by kernel_rfl
  i9 := by kernel_rfl
  i20 := by kernel_rfl
  i37 := by kernel_rfl
  i46 := by kernel_rfl
  i51 := by kernel_rfl
  i53 := by kernel_rfl
  i171 := by kernel_rfl
  i173 := by kernel_rfl
  i212 := by kernel_rfl
  i232 := by kernel_rfl
  i233 := by kernel_rfl
  m17 := by kernel_rfl
  m18 := by kernel_rfl
  m19 := by kernel_rfl }
end Go.Proofs
namespace Go.Proofs.YteoaaogfloljlaaDoor
open Go.RowKit Go.Lib
set_option linter.unusedVariables false
set_option maxRecDepth 8000

def Bk.rn : Go.Shelf.Ren := ⟨fun | 166 => 12 | 167 => 14 | 240 => 25 | 276 => 36 | n => n, fun | 0 => 0 | 3 => 3 | 4 => 4 | 5 => 5 | 9 => 9 | 20 => 20 | 37 => 34 | 70 => 44 | 72 => 46 | 75 => 48 | 80 => 52 | 164 => 77 | n => n, fun | n => n⟩
theorem Bk.l166 : Lays.n166 Tryd.prog Bk.rn := {
  mixed := by kernel_rfl
  f166 := Tryd.func12.trans (congrArg some (by kernel_rfl))
  f240 := Tryd.func25.trans (congrArg some (by kernel_rfl))
  f276 := Tryd.func36.trans (congrArg some (by kernel_rfl))
  t0 := Tryd.underlying0
  a0 := Tryd.isAgg0
  z0 := Tryd.sizeOf0
  v0 := Tryd.zeroValue0
  t3 := Tryd.underlying3
  a3 := Tryd.isAgg3
  z3 := Tryd.sizeOf3
  v3 := Tryd.zeroValue3
  t4 := Tryd.underlying4
  a4 := Tryd.isAgg4
  z4 := Tryd.sizeOf4
  v4 := Tryd.zeroValue4
  t9 := Tryd.underlying9
  a9 := Tryd.isAgg9
  z9 := Tryd.sizeOf9
  v9 := Tryd.zeroValue9
  t20 := Tryd.underlying20
  a20 := Tryd.isAgg20
  z20 := Tryd.sizeOf20
  v20 := Tryd.zeroValue20
  t37 := Tryd.underlying34
  a37 := Tryd.isAgg34
  z37 := Tryd.sizeOf34
  v37 := Tryd.zeroValue34
  t70 := Tryd.underlying44
  a70 := Tryd.isAgg44
  z70 := Tryd.sizeOf44
  v70 := Tryd.zeroValue44
  t72 := Tryd.underlying46
  a72 := Tryd.isAgg46
  z72 := Tryd.sizeOf46
  v72 := Tryd.zeroValue46
  t75 := Tryd.underlying48
  a75 := Tryd.isAgg48
  z75 := Tryd.sizeOf48
  v75 := Tryd.zeroValue48
  t164 := Tryd.underlying77
  a164 := Tryd.isAgg77
  z164 := Tryd.sizeOf77
  v164 := Tryd.zeroValue77 }
theorem Bk.l167 : Lays.n167 Tryd.prog Bk.rn := {
  mixed := by kernel_rfl
  f167 := Tryd.func14.trans (congrArg some (by kernel_rfl))
  f240 := Tryd.func25.trans (congrArg some (by kernel_rfl))
  f276 := Tryd.func36.trans (congrArg some (by kernel_rfl))
  t0 := Tryd.underlying0
  a0 := Tryd.isAgg0
  z0 := Tryd.sizeOf0
  v0 := Tryd.zeroValue0
  t4 := Tryd.underlying4
  a4 := Tryd.isAgg4
  z4 := Tryd.sizeOf4
  v4 := Tryd.zeroValue4
  t5 := Tryd.underlying5
  a5 := Tryd.isAgg5
  z5 := Tryd.sizeOf5
  v5 := Tryd.zeroValue5
  t9 := Tryd.underlying9
  a9 := Tryd.isAgg9
  z9 := Tryd.sizeOf9
  v9 := Tryd.zeroValue9
  t20 := Tryd.underlying20
  a20 := Tryd.isAgg20
  z20 := Tryd.sizeOf20
  v20 := Tryd.zeroValue20
  t37 := Tryd.underlying34
  a37 := Tryd.isAgg34
  z37 := Tryd.sizeOf34
  v37 := Tryd.zeroValue34
  t70 := Tryd.underlying44
  a70 := Tryd.isAgg44
  z70 := Tryd.sizeOf44
  v70 := Tryd.zeroValue44
  t72 := Tryd.underlying46
  a72 := Tryd.isAgg46
  z72 := Tryd.sizeOf46
  v72 := Tryd.zeroValue46
  t75 := Tryd.underlying48
  a75 := Tryd.isAgg48
  z75 := Tryd.sizeOf48
  v75 := Tryd.zeroValue48
  t164 := Tryd.underlying77
  a164 := Tryd.isAgg77
  z164 := Tryd.sizeOf77
  v164 := Tryd.zeroValue77 }
theorem Bk.ex : Builder.Extra Tryd.prog Bk.rn := {
  sizeBuilder := by kernel_rfl
  liesBuilder := by kernel_rfl
  t5 := Tryd.underlying5
  a5 := Tryd.isAgg5
  z5 := Tryd.sizeOf5
  v5 := Tryd.zeroValue5
  infoByte := by kernel_rfl
  cellsByte := by kernel_rfl
  sizeByte := by kernel_rfl
  neB5 := by decide }
theorem Bk.ex169 : Builder.Extra Tryd.prog Tryd.bld169_ren := {
  sizeBuilder := by kernel_rfl
  liesBuilder := by kernel_rfl
  t5 := Tryd.underlying5
  a5 := Tryd.isAgg5
  z5 := Tryd.sizeOf5
  v5 := Tryd.zeroValue5
  infoByte := by kernel_rfl
  cellsByte := by kernel_rfl
  sizeByte := by kernel_rfl
  neB5 := by decide }
/-- A builder of the call's own, with these bytes. -/
def Bk.Bd (B b : Nat) (l : List UInt8) (w : World) : Prop := Go.Lib.IsBuilder 46 5 B b (byteCells l) w
theorem Bk.wbyte (B b : Nat) (l : List UInt8) (w : World) (h : Bk.Bd B b l w) (hl : l.length ≤ 100000) (hB : B ≤ w.heap.size) : Calls Tryd.prog 14 #[.pointer (some ⟨b, 0, none⟩), .int .u8 10] w fun e w' => e = .returned .nilIface ∧ Bk.Bd B b (l ++ [10]) w' ∧ Below B w w' :=
  (Any.Builder_WriteByte Bk.l167 Bk.ex B b (byteCells l) 10 w h (by rw [byteCells, List.length_map]; omega) hB).mono fun e w' hh => ⟨hh.1, .inr (by
    have := hh.2.1
    rw [show byteCells l ++ [.int .u8 10] = byteCells (l ++ [10]) from by simp [byteCells]] at this
    exact this), hh.2.2⟩
theorem Bk.wstr (B b : Nat) (l : List UInt8) (s : List UInt8) (w : World) (h : Bk.Bd B b l w) (hl : l.length + s.length ≤ 100000) (hB : B ≤ w.heap.size) : Calls Tryd.prog 12 #[.pointer (some ⟨b, 0, none⟩), .string ⟨s.toArray⟩] w fun e w' => (∃ v, e = .returned v) ∧ Bk.Bd B b (l ++ s) w' ∧ Below B w w' :=
  (Any.Builder_WriteString Bk.l166 Bk.ex B b (byteCells l) ⟨s.toArray⟩ w h (by rw [byteCells, List.length_map]; show l.length + s.toArray.size ≤ _; rw [List.size_toArray]; omega) hB).mono fun e w' hh => ⟨⟨_, hh.1⟩, .inr (by
    have := hh.2.1
    rw [show byteCells l ++ Go.Lib.strCells ⟨s.toArray⟩ = byteCells (l ++ s) from by simp [byteCells, Go.Lib.strCells]] at this
    exact this), hh.2.2⟩
theorem Bk.sres (B b : Nat) (l : List UInt8) (w : World) (h : Bk.Bd B b l w) (hB : B ≤ w.heap.size) : Calls Tryd.prog 15 #[.pointer (some ⟨b, 0, none⟩)] w fun e w' => e = .returned (.string ⟨l.toArray⟩) ∧ Below B w w' := Any.Builder_String_any { Tryd.bld169 with } Bk.ex169 B b l w h hB
theorem Bk.grow_of (w : World) (k : Nat) (os : Array Obj) : w.grownBy (Go.Sort.grow (w.drewN k) os) none :=
  ⟨rfl, rfl, rfl, by simp [Go.Sort.grow], fun i hi _ => by
    show (w.heap ++ os)[i]? = w.heap[i]?
    exact Array.getElem?_append_left hi⟩
/-- A numeral of what may stand in an instruction. -/
theorem Bk.itoa (u : Nat) (hu : u ≤ 100000) (w : World) (ht : Go.Lib.TabIs Tryd.prog w "internal/strconv.uint64pow10" .u64 Go.Lib.pow10Tab) : Calls Tryd.prog 27 #[.int .i64 u] w fun e w' => e = .returned (.string ⟨(decDigits u).toArray⟩) ∧ w.grownBy w' none :=
  (Any.strconv_Itoa Tryd.itoM (u : Int) (by omega) (by omega) w ht).mono fun e w' hh => by
    obtain ⟨e1, k, os, rfl⟩ := hh
    rw [show Go.Lib.itoa (u : Int) = decDigits u from by unfold Go.Lib.itoa; rw [if_neg (by omega), Int.toNat_natCast]] at e1
    exact ⟨e1, Bk.grow_of w k os⟩
end Go.Proofs.YteoaaogfloljlaaDoor

/- Package asm: an instruction as1 a line. -/
namespace Go.Proofs.YteoaaogfloljlaaDoor
open Go.RowKit Go.Lib
set_option linter.unusedVariables false
set_option maxRecDepth 8000

/-- The tables, that of the powers of ten too. -/
structure Bk.G (w : World) : Prop where
  gl : Am.Gl w
  tb : Go.Lib.TabIs Tryd.prog w "internal/strconv.uint64pow10" .u64 Go.Lib.pow10Tab
theorem Bk.tab_grown {w w' : World} (h : Go.Lib.TabIs Tryd.prog w "internal/strconv.uint64pow10" .u64 Go.Lib.pow10Tab) (hs : 3 ≤ w.heap.size) (hb : w'.heap[1]? = w.heap[1]?) : Go.Lib.TabIs Tryd.prog w' "internal/strconv.uint64pow10" .u64 Go.Lib.pow10Tab := by
  unfold Go.Lib.TabIs World.var? at h ⊢
  rw [show Tryd.prog.globalNamed "internal/strconv.uint64pow10" = some 1 by kernel_rfl] at h ⊢
  simp only [Option.bind_some] at h ⊢
  rw [hb]
  exact h
theorem Bk.G.grown {w w' : World} (h : Bk.G w) (k : w.grownBy w' none) : Bk.G w' :=
  ⟨h.gl.below (below_of_only k (Nat.le_refl _) (fun k hk => by cases hk)) h.gl.sz, Bk.tab_grown h.tb h.gl.sz (k.block _ (by have := h.gl.sz; omega) (by simp))⟩
theorem Bk.G.below {B : Nat} {w w' : World} (h : Bk.G w) (k : Below B w w') (hB : 3 ≤ B) : Bk.G w' :=
  ⟨h.gl.below k hB, Bk.tab_grown h.tb h.gl.sz (k.block _ (by omega))⟩
/-- What an instruction's words are. -/
def Bk.ops (k : Nat) : List Int := if k = 0 ∨ k = 15 then [] else if k = 11 then [3] else if k = 14 then [0, 2] else if rgB k = true then [0, 1] else [0, 3]
def Bk.wd (x n : Nat) (o : Int) : List UInt8 := if o = 0 then 32 :: 114 :: decDigits x else if o = 1 then 32 :: 114 :: decDigits n else 32 :: decDigits n
theorem Bk.join_ops (k x n : Nat) : Bk.join (Bk.ws k x n) = ((Bk.ops k).map (Bk.wd x n)).flatten := by
  unfold Bk.ws Bk.ops
  split
  · rfl
  · split
    · simp [Bk.join, Bk.wd]
    · split
      · simp [Bk.join, Bk.wd]
      · split <;> simp [Bk.join, Bk.wd]
theorem Bk.ops_len (k : Nat) : (Bk.ops k).length ≤ 2 := by
  unfold Bk.ops
  split
  · simp
  · split
    · simp
    · split
      · simp
      · split <;> simp
theorem Bk.size_mk (l : List UInt8) : (⟨l.toArray⟩ : ByteArray).size = l.length := by show l.toArray.size = _; simp
/-- Numbers in a slice. -/
def Bk.OpR (w : World) (v : Value) (l : List Int) : Prop := ∃ A c, v = .slice A l.length c ∧ (0 < l.length → ∃ b, A = some ⟨b, 0, none⟩ ∧ b < w.heap.size ∧ ∀ (i : Nat) (o : Int), l[i]? = some o → w.cell? ⟨b, i, none⟩ = some (.int .i64 o))
theorem Bk.opr_nil (w : World) : Bk.OpR w (.slice none 0 0) [] := ⟨none, 0, rfl, fun h => absurd h (by decide)⟩
theorem Bk.opr_one (w : World) (a : Int) (t : TypeId) : Bk.OpR (w.alloc (.cells #[.int .i64 a] t)) (.slice (some ⟨w.heap.size, 0, none⟩) 1 1) [a] :=
  ⟨_, 1, rfl, fun _ => ⟨_, rfl, by simp, fun i o h => by
    rw [(Blk.new w t #[.int .i64 a]).cell i]
    have hi : i = 0 := by have := (List.getElem?_eq_some_iff.1 h).1; simp at this; omega
    subst hi
    injection h with h
    subst h
    rfl⟩⟩
theorem Bk.opr_two (w : World) (a b : Int) (t : TypeId) : Bk.OpR (w.alloc (.cells #[.int .i64 a, .int .i64 b] t)) (.slice (some ⟨w.heap.size, 0, none⟩) 2 2) [a, b] :=
  ⟨_, 2, rfl, fun _ => ⟨_, rfl, by simp, fun i o h => by
    rw [(Blk.new w t #[.int .i64 a, .int .i64 b]).cell i]
    have hi : i < 2 := by have := (List.getElem?_eq_some_iff.1 h).1; simpa using this
    rcases (by omega : i = 0 ∨ i = 1) with rfl | rfl <;> (injection h with h; subst h; rfl)⟩⟩
theorem Bk.operands_any (k : Nat) (hk : k < 16) (w : World) : Calls Tryd.prog 26 #[.int .u8 k] w fun e w' => ∃ v, e = .returned v ∧ Bk.OpR w' v (Bk.ops k) ∧ w.grownBy w' none := by
  have HR := Lib.hid (fun W => register_any k (by omega) W)
  unfold Bk.ops
  by_cases h0 : k = 0
  · subst h0
    clear HR
    go_enter Tryd.func26, Tryd.ntmps26
    go_wp2
    go_ret
    exact ⟨_, rfl, Bk.opr_nil _, only_refl _ _⟩
  by_cases h15 : k = 15
  · subst h15
    clear HR
    go_enter Tryd.func26, Tryd.ntmps26
    go_wp2
    go_ret
    exact ⟨_, rfl, Bk.opr_nil _, only_refl _ _⟩
  rw [if_neg (by omega)]
  by_cases h11 : k = 11
  · subst h11
    clear HR
    go_enter Tryd.func26, Tryd.ntmps26
    go_wp2
    go_ret
    exact ⟨_, rfl, Bk.opr_one _ _ _, only_alloc (only_refl _ none) _⟩
  rw [if_neg h11]
  by_cases h14 : k = 14
  · subst h14
    clear HR
    go_enter Tryd.func26, Tryd.ntmps26
    go_wp2
    go_ret
    exact ⟨_, rfl, Bk.opr_two _ _ _ _, only_alloc (only_refl _ none) _⟩
  rw [if_neg h14]
  have b0 : ((k : Int) == 0) = false := by simp; omega
  have b15 : ((k : Int) == 15) = false := by simp; omega
  have b11 : ((k : Int) == 11) = false := by simp; omega
  have b14 : ((k : Int) == 14) = false := by simp; omega
  clear h0 h15 h11 h14
  cases hr : rgB k
  all_goals
    rw [hr] at HR
    clear hr
    go_enter Tryd.func26, Tryd.ntmps26
    go_wp2_with (go_at_call 35; (with_reducible refine (HR.out _).mono ?_); rintro e _ ⟨rfl, rfl⟩)
    go_ret
    exact ⟨_, rfl, Bk.opr_two _ _ _ _, only_alloc (only_refl _ none) _⟩
set_option maxHeartbeats 3200000 in
theorem Bk.sentence_any (k x n : Nat) (hk : k < 16) (hx : x ≤ 100000) (hn : n ≤ 100000) (w : World) (hG : Bk.G w) : Calls Tryd.prog 13 #[.agg #[.int .u8 k, .int .i64 x, .int .i64 n]] w fun e w' => e = .returned (.string ⟨(Bk.sen k x n).toArray⟩) ∧ w.grownBy w' none := by
  obtain ⟨W0, hW0⟩ : ∃ W0, W0 = w.alloc (.cells #[.int .u8 k, .int .i64 x, .int .i64 n] 26) := ⟨_, rfl⟩
  have G0 := Lib.hid (show w.grownBy W0 none by rw [hW0]; exact only_alloc (only_refl _ none) _)
  have IB := Lib.hid (show Blk W0 w.heap.size 26 #[.int .u8 k, .int .i64 x, .int .i64 n] by rw [hW0]; exact Blk.new _ _ _)
  have HG := Lib.hid (hG.grown G0.out)
  have HNA := Lib.hid (name_any k (by omega) W0 HG.out.gl.nm)
  have HOP := Lib.hid (Bk.operands_any k hk W0)
  have HIX := Lib.hid (fun W (g : W0.grownBy W none) => Bk.itoa x hx W (HG.out.grown g).tb)
  have HIN := Lib.hid (fun W (g : W0.grownBy W none) => Bk.itoa n hn W (HG.out.grown g).tb)
  have HFIN := Lib.hid (show ∀ b : ByteArray, b.data.toList = nmX k ++ ((Bk.ops k).map (Bk.wd x n)).flatten → b = ⟨(Bk.sen k x n).toArray⟩ from fun b hb => by
    unfold Bk.sen
    rw [Bk.join_ops, ← hb])
  have HL := Lib.hid (Bk.ops_len k)
  generalize hO : Bk.ops k = O at *
  have HNM := Lib.hid (show (nmL k).data.toList = nmX k by simp [nmL])
  have HNS := Lib.hid (show (nmL k).size ≤ 6 + 10 * 0 from (show ∀ j : Fin 16, (nmL j.val).size ≤ 6 + 10 * 0 by decide +kernel) ⟨k, hk⟩)
  have HDX := Lib.hid (show (decDigits x).length ≤ 6 from Bk.len_dg 5 x (show x < 1000000 by omega))
  have HDN := Lib.hid (show (decDigits n).length ≤ 6 from Bk.len_dg 5 n (show n < 1000000 by omega))
  generalize nmL k = nb at *
  clear hG hx hn hO hk
  obtain ⟨c0, c1, c2⟩ := in3 IB.out
  go_enter Tryd.func13, Tryd.ntmps13
  go_upto_region 1 with (fail)
  rw [← hW0]
  clear hW0
  go_upto_region 2 with (go_at_call 21; (with_reducible refine HNA.out.mono ?_); rintro e _ ⟨rfl, rfl⟩)
  go_wp2_with (go_at_call 26; (with_reducible refine HOP.out.mono ?_); rintro e w2 ⟨v, rfl, ⟨A, c, rfl, hcs⟩, g2⟩; have G2 := Lib.hid g2; have HCS := Lib.hid hcs; clear g2 hcs)
  obtain ⟨ol, hol⟩ : ∃ ol, O.length = ol := ⟨_, rfl⟩
  have HOL := Lib.hid hol
  rw [hol] at HCS HL ⊢
  clear c0 c1 c2 hol HNA HOP
  go_loopw [13, 3] (fun t s wr => ∃ (j : Nat) (b : ByteArray), t = .int .i64 j ∧ s = .string b ∧ j ≤ 2 ∧ Hid (j ≤ ol) ∧ Hid (b.data.toList = nmX k ++ ((O.take j).map (Bk.wd x n)).flatten) ∧ Hid (b.size ≤ 6 + 10 * j) ∧ Hid (w2.grownBy wr none)) (fun t _ _ => 2 - (Go.RowKit.intOf t).toNat)
  case atStart => exact ⟨0, nb, rfl, rfl, by omega, Lib.hid (Nat.zero_le _), Lib.hid (by rw [HNM.out]; simp), Lib.hid HNS.out, Lib.hid (only_refl _ _)⟩
  case round =>
    obtain ⟨j, b, rfl, rfl, hj2, HJ, HBL, HBS, HGR⟩ := hrel
    by_cases hin : j < ol
    · obtain ⟨bk, rfl, hbk, hcc⟩ := HCS.out (by omega)
      obtain ⟨o, ho⟩ : ∃ o, O[j]? = some o := ⟨_, List.getElem?_eq_getElem (by have := HOL.out; omega)⟩
      have cj : wr.cell? ⟨bk, j, none⟩ = some (.int .i64 o) := HGR.out.cell (hcc j o ho) (by simp)
      have HG2 := Lib.hid (only_trans G2.out HGR.out)
      obtain ⟨c0, c1, c2⟩ := in3 (IB.out.only HG2.out (by simp))
      have HT := Lib.hid (show O.take (j + 1) = O.take j ++ [o] from by rw [List.take_add_one, ho]; rfl)
      have HK := Lib.hid (show j + 1 ≤ ol ∧ j + 1 ≤ 2 from ⟨hin, by have := HL.out; omega⟩)
      have i1 : (j : Int) < (ol : Int) := by omega
      have i2 : j < ol := hin
      have i3 : (0 : Int) ≤ (j : Int) := by omega
      have u1 : IntKind.i64.wrap ((j : Int) + 1) = ((j + 1 : Nat) : Int) := by rw [IntKind.wrap_i64]; omega
      have HIX1 := Lib.hid (HIX.out _ HG2.out)
      have HIN1 := Lib.hid (HIN.out _ HG2.out)
      have m1 : ¬ 9223372036854775807 < 2 + (decDigits x).length := by have := HDX.out; omega
      have m2 : ¬ 9223372036854775807 < b.size + (2 + (decDigits x).length) := by have := HDX.out; have := HBS.out; omega
      have m3 : ¬ 9223372036854775807 < 2 + (decDigits n).length := by have := HDN.out; omega
      have m4 : ¬ 9223372036854775807 < b.size + (2 + (decDigits n).length) := by have := HDN.out; have := HBS.out; omega
      have m5 : ¬ 9223372036854775807 < 1 + (decDigits n).length := by have := HDN.out; omega
      have m6 : ¬ 9223372036854775807 < b.size + (1 + (decDigits n).length) := by have := HDN.out; have := HBS.out; omega
      clear hcc ho hbk hin
      by_cases o0 : o = 0
      · subst o0
        go_wp2_with (go_at_call 27; (with_reducible refine HIX1.out.mono ?_); rintro e w5 ⟨rfl, g5⟩; have G5 := Lib.hid (only_trans HGR.out g5); clear g5)
        go_roundw
        case rel => exact ⟨j + 1, _, by go_num, rfl, HK.out.2, Lib.hid HK.out.1, Lib.hid (by rw [HT.out, List.map_append, List.flatten_append, ← List.append_assoc, ← HBL.out]; simp [ByteArray.data_append, Bk.wd]), Lib.hid (by have h1 := HDX.out; have h2 := HDN.out; have h3 := HBS.out; rw [ByteArray.size_append, ByteArray.size_append, Bk.size_mk (decDigits x), show (⟨#[32, 114]⟩ : ByteArray).size = 2 from rfl]; omega), G5⟩
        case measure =>
          have := HK.out
          simp [Go.RowKit.intOf]
          omega
      · have b0 : (o == 0) = false := by simpa using o0
        by_cases o1 : o = 1
        · subst o1
          go_wp2_with (go_at_call 27; (with_reducible refine HIN1.out.mono ?_); rintro e w5 ⟨rfl, g5⟩; have G5 := Lib.hid (only_trans HGR.out g5); clear g5)
          go_roundw
          case rel => exact ⟨j + 1, _, by go_num, rfl, HK.out.2, Lib.hid HK.out.1, Lib.hid (by rw [HT.out, List.map_append, List.flatten_append, ← List.append_assoc, ← HBL.out]; simp [ByteArray.data_append, Bk.wd]), Lib.hid (by have h1 := HDX.out; have h2 := HDN.out; have h3 := HBS.out; rw [ByteArray.size_append, ByteArray.size_append, Bk.size_mk (decDigits n), show (⟨#[32, 114]⟩ : ByteArray).size = 2 from rfl]; omega), G5⟩
          case measure =>
            have := HK.out
            simp [Go.RowKit.intOf]
            omega
        · have b1 : (o == 1) = false := by simpa using o1
          have HO01 := Lib.hid (And.intro o0 o1)
          clear o0 o1
          go_wp2_with (go_at_call 27; (with_reducible refine HIN1.out.mono ?_); rintro e w5 ⟨rfl, g5⟩; have G5 := Lib.hid (only_trans HGR.out g5); clear g5)
          go_roundw
          case rel => exact ⟨j + 1, _, by go_num, rfl, HK.out.2, Lib.hid HK.out.1, Lib.hid (by rw [HT.out, List.map_append, List.flatten_append, ← List.append_assoc, ← HBL.out]; simp [ByteArray.data_append, Bk.wd, HO01.out.1, HO01.out.2]), Lib.hid (by have h1 := HDX.out; have h2 := HDN.out; have h3 := HBS.out; rw [ByteArray.size_append, ByteArray.size_append, Bk.size_mk (decDigits n), show (⟨#[32]⟩ : ByteArray).size = 1 from rfl]; omega), G5⟩
          case measure =>
            have := HK.out
            simp [Go.RowKit.intOf]
            omega
    · have i1 : ¬ (j : Int) < (ol : Int) := by omega
      have HE := Lib.hid (HFIN.out b (by rw [HBL.out, List.take_of_length_le (by have := HOL.out; omega)]))
      clear hin
      go_wp2
      go_ret
      exact ⟨by rw [HE.out]; rfl, only_trans (only_trans G0.out G2.out) HGR.out⟩
end Go.Proofs.YteoaaogfloljlaaDoor

/- Package asm: Print. -/
namespace Go.Proofs.YteoaaogfloljlaaDoor
open Go.RowKit Go.Lib
set_option linter.unusedVariables false
set_option maxRecDepth 8000

theorem Bk.Bd.grown {B b : Nat} {l : List UInt8} {w w' : World} (h : Bk.Bd B b l w) (k : w.grownBy w' none) : Bk.Bd B b l w' := by
  have one : ∀ p, Go.Lib.BuilderAt 46 5 B b p (byteCells l) w → Go.Lib.BuilderAt 46 5 B b p (byteCells l) w' := fun p hh => by
    obtain ⟨h1, v, h2, h3, h4⟩ := hh
    refine ⟨h1, v, (k.block b (lt_of_block h2) (by simp)).trans h2, h3.kept k ?_, h4⟩
    cases hv : v.ownBlock
    · exact .inl rfl
    · exact .inr (by simp)
  exact h.elim (fun x => .inl (one _ x)) (fun x => .inr (one _ x))
/-- Instructions that came in. -/
def Bk.InP (w : World) (A : Option Addr) (n : Nat) (D : Nat → Bk.I) : Prop := 0 < n → ∃ b off, A = some ⟨b, off, none⟩ ∧ b < w.heap.size ∧ ∀ i, i < n → (D i).k < 256 ∧ w.cell? ⟨b, off + i * 3, none⟩ = some (.int .u8 (D i).k) ∧ w.cell? ⟨b, off + i * 3 + 1, none⟩ = some (.int .i64 (D i).x) ∧ w.cell? ⟨b, off + i * 3 + 2, none⟩ = some (.int .i64 (D i).n)
theorem Bk.InP.grown {w w' : World} {A : Option Addr} {n : Nat} {D : Nat → Bk.I} (h : Bk.InP w A n D) (k : w.grownBy w' none) : Bk.InP w' A n D := fun hp => by
  obtain ⟨b, off, rfl, h1, h2⟩ := h hp
  exact ⟨b, off, rfl, Nat.lt_of_lt_of_le h1 k.size, fun i hi => by
    obtain ⟨h0, h3, h4, h5⟩ := h2 i hi
    exact ⟨h0, k.cell h3 (by simp), k.cell h4 (by simp), k.cell h5 (by simp)⟩⟩
/-- The first of them that may be. -/
def Bk.upto (D : Nat → Bk.I) : Nat → List Bk.I
  | 0 => []
  | j + 1 => Bk.upto D j ++ (if Bk.may (D j) = true then [D j] else [])
theorem Bk.upto_all (D : Nat → Bk.I) : ∀ j, ∀ i ∈ Bk.upto D j, Bk.may i = true
  | 0, i, h => by simp [Bk.upto] at h
  | j + 1, i, h => by
    rw [Bk.upto, List.mem_append] at h
    rcases h with h | h
    · exact Bk.upto_all D j i h
    · split at h
      · rename_i hm
        rw [List.mem_singleton] at h
        rw [h]
        exact hm
      · simp at h
theorem Bk.upto_len (D : Nat → Bk.I) : ∀ j, (Bk.upto D j).length ≤ j
  | 0 => Nat.le_refl _
  | j + 1 => by
    have := Bk.upto_len D j
    rw [Bk.upto, List.length_append]
    split <;> simp <;> omega
theorem Bk.txt_app : ∀ (a b : List Bk.I), Bk.txt (a ++ b) = Bk.txt a ++ Bk.txt b
  | [], b => rfl
  | i :: a, b => by rw [List.cons_append, Bk.txt, Bk.txt_app a b, Bk.txt, List.append_assoc, List.cons_append]
theorem Bk.prg_app : ∀ (a b : List Bk.I), Bk.prg (a ++ b) = Bk.prg a ++ Bk.prg b
  | [], b => rfl
  | i :: a, b => by rw [List.cons_append, Bk.prg, Bk.prg_app a b, Bk.prg, List.append_assoc]
theorem Bk.txt_yes (D : Nat → Bk.I) (j : Nat) (h : Bk.may (D j) = true) : Bk.txt (Bk.upto D (j + 1)) = Bk.txt (Bk.upto D j) ++ Bk.ln (D j) ++ [10] := by
  rw [Bk.upto, if_pos h, Bk.txt_app, List.append_assoc]
  rfl
theorem Bk.upto_no (D : Nat → Bk.I) (j : Nat) (h : ¬ Bk.may (D j) = true) : Bk.upto D (j + 1) = Bk.upto D j := by rw [Bk.upto, if_neg h, List.append_nil]
theorem Bk.txt_few (D : Nat → Bk.I) (j : Nat) (hj : j ≤ 100) : (Bk.txt (Bk.upto D j)).length ≤ 2100 := by
  have h1 := Bk.txt_len _ (Bk.upto_all D j)
  have h2 := Bk.upto_len D j
  omega
set_option maxHeartbeats 6400000 in
theorem Bk.print_any (A : Option Addr) (n c : Nat) (D : Nat → Bk.I) (hn : n ≤ 100) (w : World) (hG : Bk.G w) (hI : Bk.InP w A n D) : Calls Tryd.prog 7 #[.slice A n c] w fun e w' => e = .returned (.string ⟨(Bk.txt (Bk.upto D n)).toArray⟩) ∧ Below w.heap.size w w' := by
  obtain ⟨B, hB⟩ : ∃ B, B = w.heap.size := ⟨_, rfl⟩
  obtain ⟨W0, hW0⟩ : ∃ W0, W0 = w.alloc (.cells #[.pointer none, .slice none 0 0] 46) := ⟨_, rfl⟩
  have BD0 := Lib.hid (show Bk.Bd B B [] W0 by rw [hB, hW0]; exact Go.Lib.fresh_isBuilder 46 5 w)
  have L0 := Lib.hid (show Below B w W0 by rw [hB, hW0]; exact below_of_only (only_alloc (only_refl w none) _) (Nat.le_refl _) (fun k hk => by cases hk))
  have HG := Lib.hid hG
  have HI := Lib.hid hI
  have HN := Lib.hid hn
  have H3 := Lib.hid (show 3 ≤ B by rw [hB]; exact hG.gl.sz)
  have HBW := Lib.hid (show B = w.heap.size from hB)
  clear hG hI hn
  go_enter Tryd.func7, Tryd.ntmps7
  go_upto_region 2 with (fail)
  rw [← hW0, ← hB]
  clear hW0 hB
  go_wp2
  go_loopw [8] (fun t wr => ∃ j : Nat, t = .int .i64 j ∧ j ≤ 100 ∧ Hid (j ≤ n) ∧ Hid (Bk.Bd B B (Bk.txt (Bk.upto D j)) wr) ∧ Hid (Below B w wr)) (fun t _ => 100 - (Go.RowKit.intOf t).toNat)
  case atStart => exact ⟨0, rfl, by omega, Lib.hid (Nat.zero_le _), BD0, L0⟩
  case round =>
    obtain ⟨j, rfl, hj1, HJ, HBD, HBL⟩ := hrel
    clear BD0 L0
    by_cases hin : j < n
    · obtain ⟨bk, off, rfl, hbk, hcc⟩ := HI.out (by omega)
      obtain ⟨hk256, d0, d1, d2⟩ := hcc j hin
      have HK := Lib.hid (show j + 1 ≤ n ∧ j + 1 ≤ 100 from ⟨hin, by have := HN.out; omega⟩)
      have HGW := Lib.hid (HG.out.below HBL.out H3.out)
      obtain ⟨mb, hmb⟩ : ∃ mb, Bk.may (D j) = mb := ⟨_, rfl⟩
      have HTF := Lib.hid (Bk.txt_few D j (by have := HK.out.2; omega))
      have HYES := Lib.hid (Bk.txt_yes D j)
      have HNO := Lib.hid (Bk.upto_no D j)
      have HLN := Lib.hid (fun h => Bk.ln_len (i := D j) h)
      have HF := Lib.hid (fun h => mayI_facts (k := (D j).k) (x := (D j).x) (n := (D j).n) h)
      have HMB := Lib.hid hmb
      obtain ⟨y, hD⟩ : ∃ y, D j = y := ⟨_, rfl⟩
      obtain ⟨k, x, m⟩ := y
      have c0 : wr.cell? ⟨bk, off + j * 3, none⟩ = some (.int .u8 k) := (HBL.out.cell (p := ⟨bk, off + j * 3, none⟩) (show bk < B by have := HBW.out; omega)).trans (by rw [d0, hD])
      have c1 : wr.cell? ⟨bk, off + j * 3 + 1, none⟩ = some (.int .i64 x) := (HBL.out.cell (p := ⟨bk, off + j * 3 + 1, none⟩) (show bk < B by have := HBW.out; omega)).trans (by rw [d1, hD])
      have c2 : wr.cell? ⟨bk, off + j * 3 + 2, none⟩ = some (.int .i64 m) := (HBL.out.cell (p := ⟨bk, off + j * 3 + 2, none⟩) (show bk < B by have := HBW.out; omega)).trans (by rw [d2, hD])
      rw [hD] at hk256 HMB HYES HNO HLN HF hmb
      simp only at hk256 HF
      have HK256 := Lib.hid hk256
      have HMI := Lib.hid (show mayI k x m = mb from hmb)
      clear hcc hbk d0 d1 d2 hD hk256 hmb
      have i1 : (j : Int) < (n : Int) := by omega
      have i2 : j < n := hin
      have i3 : (0 : Int) ≤ (j : Int) := by omega
      have u1 : IntKind.i64.wrap ((j : Int) + 1) = ((j + 1 : Nat) : Int) := by rw [IntKind.wrap_i64]; omega
      clear hin
      go_upto_region 5 with (fail)
      clear c0 c1 c2
      obtain ⟨W1, hW1⟩ : ∃ W1, W1 = wr.alloc (.cells #[.int .u8 k, .int .i64 x, .int .i64 m] 26) := ⟨_, rfl⟩
      have g1 : wr.grownBy W1 none := by rw [hW1]; exact only_alloc (only_refl _ none) _
      have IB := Lib.hid (show Blk W1 wr.heap.size 26 #[.int .u8 k, .int .i64 x, .int .i64 m] by rw [hW1]; exact Blk.new _ _ _)
      have G1 := Lib.hid g1
      have HG1 := Lib.hid (HGW.out.grown g1)
      rw [← hW1]
      obtain ⟨bi, hbi⟩ : ∃ bi, bi = wr.heap.size := ⟨_, rfl⟩
      rw [← hbi] at IB ⊢
      clear hbi hW1 g1
      have HMAY := Lib.hid (show Calls Tryd.prog 11 #[.agg #[.int .u8 k, .int .i64 x, .int .i64 m]] W1 fun e w' => e = .returned (.bool mb) ∧ W1.grownBy w' none from by rw [← HMI.out]; exact may_any k x m HK256.out W1 HG1.out.gl.nm)
      obtain ⟨c0, c1, c2⟩ := in3 IB.out
      cases mb
      · go_wp2_with (go_at_call 11; (with_reducible refine HMAY.out.mono ?_); rintro e w2 ⟨rfl, g2⟩; have G2 := Lib.hid (only_trans G1.out g2); clear g2)
        go_roundw
        case rel => exact ⟨j + 1, by go_num, HK.out.2, Lib.hid HK.out.1, Lib.hid (by rw [HNO.out (by rw [HMB.out]; simp)]; exact HBD.out.grown G2.out), Lib.hid (HBL.out.trans (below_of_only G2.out (Nat.le_trans (Nat.le_of_eq HBW.out) HBL.out.size) (fun k hk => by cases hk)))⟩
        case measure =>
          have := HK.out
          simp [Go.RowKit.intOf]
          omega
      · obtain ⟨f1, f2, f3, f4, f5⟩ := HF.out HMI.out
        obtain ⟨xn, rfl⟩ := Int.eq_ofNat_of_zero_le f2
        obtain ⟨mn, rfl⟩ := Int.eq_ofNat_of_zero_le f4
        have HSE := Lib.hid (fun W (g : W1.grownBy W none) => Bk.sentence_any k xn mn f1 (by omega) (by omega) W (HG1.out.grown g))
        have HLE := Lib.hid (show (Bk.sen k xn mn).length ≤ 20 from HLN.out HMB.out)
        have HSZ := Lib.hid (show B ≤ wr.heap.size from (Nat.le_trans (Nat.le_of_eq HBW.out) HBL.out.size))
        clear f1 f2 f3 f4 f5 HF
        go_wp2_with (first
          | (go_at_call 11; (with_reducible refine HMAY.out.mono ?_); rintro e w2 ⟨rfl, g2⟩; have G2 := Lib.hid g2; clear g2 c0 c1 c2; obtain ⟨c0, c1, c2⟩ := in3 (IB.out.only G2.out (by simp)))
          | (go_at_call 13; (with_reducible refine (HSE.out _ G2.out).mono ?_); rintro e w3 ⟨rfl, g3⟩; have G3 := Lib.hid (only_trans (only_trans G1.out G2.out) g3); clear g3 c0 c1 c2; have HWS := Lib.hid (Bk.wstr B B (Bk.txt (Bk.upto D j)) (Bk.sen k xn mn) w3 (HBD.out.grown G3.out) (by have := HTF.out; have := HLE.out; omega) (Nat.le_trans HSZ.out G3.out.size)))
          | (go_at_call 12; (with_reducible refine HWS.out.mono ?_); rintro e w4 ⟨⟨v4, rfl⟩, hb4, l4⟩; have B4 := Lib.hid hb4; have L4 := Lib.hid l4; clear hb4 l4; have HWB := Lib.hid (Bk.wbyte B B (Bk.txt (Bk.upto D j) ++ Bk.sen k xn mn) w4 B4.out (by rw [List.length_append]; have := HTF.out; have := HLE.out; omega) (Nat.le_trans (Nat.le_trans HSZ.out G3.out.size) L4.out.size)))
          | (go_at_call 14; (with_reducible refine HWB.out.mono ?_); rintro e w5 ⟨rfl, hb5, l5⟩; have B5 := Lib.hid hb5; have L5 := Lib.hid l5; clear hb5 l5))
        go_roundw
        case rel => exact ⟨j + 1, by go_num, HK.out.2, Lib.hid HK.out.1, Lib.hid (by rw [HYES.out HMB.out]; exact B5.out), Lib.hid ((HBL.out.trans (below_of_only G3.out HSZ.out (fun k hk => by cases hk))).trans (L4.out.trans L5.out))⟩
        case measure =>
          have := HK.out
          simp [Go.RowKit.intOf]
          omega
    · have i1 : ¬ (j : Int) < (n : Int) := by omega
      have HE := Lib.hid (show j = n by have := HJ.out; omega)
      have HSR := Lib.hid (Bk.sres B B _ wr HBD.out (Nat.le_trans (Nat.le_of_eq HBW.out) HBL.out.size))
      clear hin
      go_wp2_with (go_at_call 15; (with_reducible refine HSR.out.mono ?_); rintro e w6 ⟨rfl, l6⟩; have L6 := Lib.hid l6; clear l6)
      go_ret
      exact ⟨by rw [HE.out]; rfl, by rw [← HBW.out]; exact HBL.out.trans L6.out⟩
end Go.Proofs.YteoaaogfloljlaaDoor

/- AsmShifts, walked. -/
namespace Go.Proofs.YteoaaogfloljlaaDoor
open Go.RowKit Go.Lib
set_option linter.unusedVariables false

theorem Am.one_ws {i : Nat} {l : Am.Ln} {st : Am.St} (h : ∀ x ∈ st.ws, x.1 ≤ i) : ∀ x ∈ (Am.one i l st).2.ws, x.1 ≤ i := by
  unfold Am.one
  by_cases h0 : l.kind = 0
  · rw [if_pos h0]; exact h
  · rw [if_neg h0]
    by_cases h1 : l.kind = 1
    · rw [if_pos h1]
      split
      · exact h
      · exact h
    · rw [if_neg h1]
      by_cases h2 : l.kind = 2
      · rw [if_pos h2]
        split
        · exact h
        · intro x hx
          simp only at hx
          split at hx
          · exact h x hx
          · rcases List.mem_append.1 hx with hx | hx
            · exact h x hx
            · simp at hx
              subst hx
              exact Nat.le_refl _
      · rw [if_neg h2]; exact h
theorem Am.go_lines : ∀ (l : List (List UInt8)) (i : Nat) (st : Am.St), (∀ x ∈ st.ws, x.1 ≤ i) → (Am.go i l st).2.1 ≤ i + l.length ∧ ∀ x ∈ (Am.go i l st).2.2.ws, x.1 ≤ i + l.length
  | [], i, st, h => ⟨Nat.zero_le _, fun x hx => by have := h x hx; simp; omega⟩
  | y :: r, i, st, h => by
    unfold Am.go
    by_cases q : (Am.one (i + 1) (Am.line y) st).1 = 0
    · rw [if_pos q]
      obtain ⟨a, b⟩ := Am.go_lines r (i + 1) (Am.one (i + 1) (Am.line y) st).2 (Am.one_ws (fun x hx => by have := h x hx; omega))
      exact ⟨by rw [List.length_cons]; omega, fun x hx => by have := b x hx; rw [List.length_cons]; omega⟩
    · rw [if_neg q]
      exact ⟨by rw [List.length_cons]; simp, fun x hx => by have := h x hx; rw [List.length_cons]; omega⟩
theorem Am.ful_lines (lb : List (List UInt8 × Nat)) (n : Nat) : ∀ (ws : List (Nat × List UInt8 × Nat)) (p : List UInt8), (∀ x ∈ ws, x.1 ≤ n) → (Am.ful lb ws p).2.1 ≤ n
  | [], p, h => Nat.zero_le _
  | x :: r, p, h => by
    unfold Am.ful
    cases Am.look lb x.2.1 with
    | none => exact h x (by simp)
    | some a => exact Am.ful_lines lb n r _ (fun y hy => h y (List.mem_cons_of_mem _ hy))
theorem Am.read_line (s : List UInt8) : (Am.read s).2.1 ≤ s.length + 1 := by
  obtain ⟨a, b⟩ := Am.go_lines (Am.spl 10 s) 0 Am.st0 (fun x hx => by cases hx)
  have hl : (Am.spl 10 s).length ≤ s.length + 1 := by
    rw [Am.spl_len]
    have := List.count_le_length (a := (10 : UInt8)) (l := s)
    omega
  unfold Am.read
  split
  · exact Nat.zero_le _
  · split
    · split
      · exact Nat.zero_le _
      · have := Am.ful_lines (Am.go 0 (Am.spl 10 s) Am.st0).2.2.lb (0 + (Am.spl 10 s).length) _ (Am.go 0 (Am.spl 10 s) Am.st0).2.2.pr b
        simp only
        omega
    · simp only
      omega
def Am.ex : ByteArray := ⟨#[115, 101, 116, 32, 114, 49, 32, 101, 110, 100, 10, 106, 117, 109, 112, 32, 101, 110, 100, 10, 101, 110, 100, 58, 10, 115, 116, 111, 112]⟩
theorem Am.ex_read : (Am.read Am.ex.data.toList).1 = 0 ∧ (Am.read Am.ex.data.toList).2.1 = 0 ∧ (Am.read Am.ex.data.toList).2.2.1 = [1, 1, 8, 0, 11, 0, 8, 0, 0, 0, 0, 0] := by decide +kernel
set_option maxRecDepth 20000 in
theorem Am.live20_any (w : World) (hg : Am.Gl w) : Calls Tryd.prog 8 #[] w fun r w' => r = .returned (.bool true) ∧ Below w.heap.size w w' := by
  have h := Am.assemble_any Am.ex (by decide) w hg
  obtain ⟨e1, e2, e3⟩ := Am.ex_read
  rw [e1, e2, e3] at h
  unfold Am.ex at h
  have HA := Lib.hid h
  clear h e1 e2 e3 hg
  go_enter Tryd.func8, Tryd.ntmps8
  go_wp2_with (first
    | (go_at_call 6; (with_reducible refine HA.out.mono ?_); rintro r w2 ⟨rfl, bel⟩))
  go_ret
  exact ⟨by first | rfl | (simp; done), bel⟩
theorem Am.rem_next {rem ln : ByteArray} {k : Nat} (hk : k < rem.size) (h : ln.data.toList = 35 :: rem.data.toList.take k) (hn : (10 : UInt8) ∉ rem.data.toList.take k) (h10 : rem[k]'hk ≠ 10) : (ln ++ rem.extract k (k + 1)).data.toList = 35 :: rem.data.toList.take (k + 1) ∧ (10 : UInt8) ∉ rem.data.toList.take (k + 1) := by
  have hl : k < rem.data.toList.length := by rw [Am.len]; exact hk
  have he : rem.data.toList[k] = rem[k]'hk := by simp; rfl
  have ht : rem.data.toList.take (k + 1) = rem.data.toList.take k ++ [rem[k]'hk] := by rw [Am.take_next hl, he]
  refine ⟨?_, ?_⟩
  · rw [ByteArray.data_append, Array.toList_append, h, ht, Go.Lib.extract_data]
    simp only [List.cons_append]
    congr 2
    rw [show k + 1 - k = 1 from by omega, List.drop_eq_getElem_cons hl, he]
    rfl
  · rw [ht, List.mem_append]
    rintro (e | e)
    · exact hn e
    · simp at e
      exact h10 e.symm
end Go.Proofs.YteoaaogfloljlaaDoor

/- Package code: Get, by its contract. -/
namespace Go.Proofs.YteoaaogfloljlaaDoor
open Go.RowKit Go.Lib
set_option linter.unusedVariables false

end Go.Proofs.YteoaaogfloljlaaDoor
