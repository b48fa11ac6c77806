/- Package conf: what is wrong with a row, by its contracts. -/
import Derived.Test.YtgkegmkedkgkcaaO0
namespace Go.Proofs.Ytgkegmkedkgkcaa
open Go.RowKit Go.Lib Go.Sort
set_option linter.unusedVariables false

theorem box_cells {w w' : World} {t : TypeId} {cs : Array Value} (g : (w.alloc (.cells cs t)).grownBy w' none) (i : Nat) : w'.cell? ⟨w.heap.size, i, none⟩ = cs[i]? := ((Blk.new w t cs).only g (by simp)).cell i
theorem meet_conf (p q : Int × Int) (w : World) : Calls Try.prog 47 #[spv p, spv q] w fun e w' => e = .returned (.bool (meetsB p q)) ∧ w.grownBy w' none := by
  obtain ⟨a, b⟩ := p
  obtain ⟨c, d⟩ := q
  have g0 : ((w.alloc (.cells #[.int .i64 a, .int .i64 b] 36)).alloc (.cells #[.int .i64 c, .int .i64 d] 36)).grownBy ((w.alloc (.cells #[.int .i64 a, .int .i64 b] 36)).alloc (.cells #[.int .i64 c, .int .i64 d] 36)) none := only_refl _ _
  have G := Lib.hid g0
  have HM := Lib.hid (fun W => meet_any (a, b) (c, d) W)
  generalize meetsB (a, b) (c, d) = r at HM
  generalize meetV (a, b) (c, d) = v at HM
  obtain ⟨v1, v2⟩ := v
  clear g0
  go_enter Try.func47, Try.ntmps47
  go_wp2_with (go_at_call 58; ((with_reducible refine (HM.out _).mono ?_)); rintro e w2 ⟨rfl, g2⟩; have G2 := Lib.hid (only_trans G.out g2); clear g2)
  go_ret
  exact ⟨rfl, only_trans (only_alloc (only_alloc (only_refl _ _) _) _) (only_alloc G2.out _)⟩
theorem memory_any (x : Cl) (hx : fitI (x.base + x.size)) (w : World) : Calls Try.prog 48 #[clv x] w fun e w' => e = .returned (spv (x.base, x.base + x.size)) ∧ w.grownBy w' none := by
  obtain ⟨x1, x2, x3, x4, x5, x6, x7, x8, x9, x10⟩ := x
  have hw : IntKind.i64.wrap (x1 + x2) = x1 + x2 := by unfold fitI at hx; rw [IntKind.wrap_i64]; simp only at hx; omega
  clear hx
  go_enter Try.func48, Try.ntmps48
  go_wp2
  refine bodyPost_ret (v := .agg #[.int .i64 x1, .int .i64 (x1 + x2)]) (by simp [results, Try.results48, go_sem]) rfl ⟨rfl, only_alloc (only_alloc (only_refl _ _) _) _⟩
theorem sectors_any (x : Cl) (hx : fitI (x.first + x.secs)) (w : World) : Calls Try.prog 49 #[clv x] w fun e w' => e = .returned (spv (x.first, x.first + x.secs)) ∧ w.grownBy w' none := by
  obtain ⟨x1, x2, x3, x4, x5, x6, x7, x8, x9, x10⟩ := x
  have hw : IntKind.i64.wrap (x9 + x10) = x9 + x10 := by unfold fitI at hx; rw [IntKind.wrap_i64]; simp only at hx; omega
  clear hx
  go_enter Try.func49, Try.ntmps49
  go_wp2
  refine bodyPost_ret (v := .agg #[.int .i64 x9, .int .i64 (x9 + x10)]) (by simp [results, Try.results49, go_sem]) rfl ⟨rfl, only_alloc (only_alloc (only_refl _ _) _) _⟩

/-- Is a client's row one that may not be? -/
def badC (x : Cl) : Bool := !(wiB x.size 32 1024) || !(wiB x.base 128 (16384 - x.size)) || decide (rgN x.ring = 0) || !(wiB x.at' 0 (x.size - rgN x.ring)) || !(wiB x.quota 1 16) || !(wiB x.queue 0 16) || !(wiB x.mac 0 255) || !(wiB x.chan 0 255) || !(wiB x.secs 0 64) || !(wiB x.first 0 (512 - x.secs))
theorem wiB_iff {n a b : Int} : wiB n a b = true ↔ a ≤ n ∧ n ≤ b := by unfold wiB; exact decide_eq_true_iff
set_option maxHeartbeats 1600000 in
theorem badc_any (x : Cl) (hx : FitCl x) (w : World) : Calls Try.prog 20 #[clv x] w fun e w' => e = .returned (.bool (badC x)) ∧ w.grownBy w' none := by
  obtain ⟨x1, x2, x3, x4, x5, x6, x7, x8, x9, x10⟩ := x
  obtain ⟨f1, f2, f3, f4, f5, f6, f7, f8, f9, f10⟩ := hx
  simp only at f1 f2 f3 f4 f5 f6 f7 f8 f9 f10
  unfold fitI at f1 f2 f3 f4 f5 f6 f7 f8 f9 f10
  obtain ⟨r, hr⟩ : ∃ r, r = rgN x3 := ⟨_, rfl⟩
  have hr2 := rgN_le x3
  rw [← hr] at hr2
  have HW := Lib.hid (fun (n a b : Int) (W : World) => within_any n a b W)
  have HR := Lib.hid (fun W => ring_any x3 W)
  rw [← hr] at HR
  have hb : badC ⟨x1, x2, x3, x4, x5, x6, x7, x8, x9, x10⟩ = (!(wiB x2 32 1024) || !(wiB x1 128 (16384 - x2)) || decide (r = 0) || !(wiB x4 0 (x2 - r)) || !(wiB x5 1 16) || !(wiB x6 0 16) || !(wiB x7 0 255) || !(wiB x8 0 255) || !(wiB x10 0 64) || !(wiB x9 0 (512 - x10))) := by rw [hr]; rfl
  rw [hb]
  clear hb hr
  have e1 : wiB x2 32 1024 = true → IntKind.i64.wrap (16384 - x2) = 16384 - x2 ∧ IntKind.i64.wrap (x2 - r) = x2 - r := fun h => by
    have := wiB_iff.1 h
    rw [IntKind.wrap_i64, IntKind.wrap_i64]
    omega
  have e2 : wiB x10 0 64 = true → IntKind.i64.wrap (512 - x10) = 512 - x10 := fun h => by
    have := wiB_iff.1 h
    rw [IntKind.wrap_i64]
    omega
  have HW1 := Lib.hid (fun W => HW.out x2 32 1024 W)
  have HW2 := Lib.hid (fun W => HW.out x1 128 (16384 - x2) W)
  have HW3 := Lib.hid (fun W => HW.out x4 0 (x2 - r) W)
  have HW4 := Lib.hid (fun W => HW.out x5 1 16 W)
  have HW5 := Lib.hid (fun W => HW.out x6 0 16 W)
  have HW6 := Lib.hid (fun W => HW.out x7 0 255 W)
  have HW7 := Lib.hid (fun W => HW.out x8 0 255 W)
  have HW8 := Lib.hid (fun W => HW.out x10 0 64 W)
  have HW9 := Lib.hid (fun W => HW.out x9 0 (512 - x10) W)
  generalize h1 : wiB x2 32 1024 = c1 at *
  generalize h2 : wiB x1 128 (16384 - x2) = c2 at *
  generalize h3 : wiB x4 0 (x2 - r) = c3 at *
  generalize h4 : wiB x5 1 16 = c4 at *
  generalize h5 : wiB x6 0 16 = c5 at *
  generalize h6 : wiB x7 0 255 = c6 at *
  generalize h7 : wiB x8 0 255 = c7 at *
  generalize h8 : wiB x10 0 64 = c8 at *
  generalize h9 : wiB x9 0 (512 - x10) = c9 at *
  clear h1 h2 h3 h4 h5 h6 h7 h8 h9 f1 f2 f3 f4 f5 f6 f7 f8 f9 f10 hr2
  go_enter Try.func20, Try.ntmps20
  go_upto_region 2 with (go_at_call 12; ((with_reducible refine (HR.out _).mono ?_)); rintro e w2 ⟨rfl, rfl⟩)
  simp only [List.append]
  go_wp2_with (first
    | (go_at_call 12; ((with_reducible refine (HR.out _).mono ?_)); rintro e w2 ⟨rfl, rfl⟩)
    | (go_at_call 40; ((with_reducible refine (HW1.out _).mono ?_)); rintro e w2 ⟨rfl, rfl⟩; (cases c1 <;> (try obtain ⟨e3, e4⟩ := e1 rfl)))
    | (go_at_call 40; ((with_reducible refine (HW2.out _).mono ?_)); rintro e w2 ⟨rfl, rfl⟩; (cases c2 <;> (by_cases hr : r = 0) <;> (first | (have hr' : (r == 0) = true := by simpa using hr) | (have hr' : (r == 0) = false := by simpa using hr))))
    | (go_at_call 40; ((with_reducible refine (HW3.out _).mono ?_)); rintro e w2 ⟨rfl, rfl⟩; cases c3)
    | (go_at_call 40; ((with_reducible refine (HW4.out _).mono ?_)); rintro e w2 ⟨rfl, rfl⟩; cases c4)
    | (go_at_call 40; ((with_reducible refine (HW5.out _).mono ?_)); rintro e w2 ⟨rfl, rfl⟩; cases c5)
    | (go_at_call 40; ((with_reducible refine (HW6.out _).mono ?_)); rintro e w2 ⟨rfl, rfl⟩; cases c6)
    | (go_at_call 40; ((with_reducible refine (HW7.out _).mono ?_)); rintro e w2 ⟨rfl, rfl⟩; cases c7)
    | (go_at_call 40; ((with_reducible refine (HW8.out _).mono ?_)); rintro e w2 ⟨rfl, rfl⟩; (cases c8 <;> (try have e5 := e2 rfl)))
    | (go_at_call 40; ((with_reducible refine (HW9.out _).mono ?_)); rintro e w2 ⟨rfl, rfl⟩))
  all_goals
    go_ret
    exact ⟨by simp [*], only_alloc (only_refl _ _) _⟩
end Go.Proofs.Ytgkegmkedkgkcaa
