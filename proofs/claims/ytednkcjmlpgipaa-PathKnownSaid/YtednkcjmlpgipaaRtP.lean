/-
  A timer, plainly: its numbers, what a sample and a backing off make of it, and what follows.
-/
import Derived.Test.YtednkcjmlpgipaaMem
namespace Go.Proofs.Ytednkcjmlpgipaa
namespace Rt
set_option linter.unusedVariables false

structure T where
  lo : Nat
  hi : Nat
  v : Nat
  sd : Bool
  s : Nat
  w : Nat
def clamp (lo hi n : Nat) : Nat := min (max n lo) hi
def dist (a b : Nat) : Nat := max a b - min a b
/-- The smoothed one and how far off, behind a sample (already bounded). -/
def T.reck (t : T) (r : Nat) : T :=
  if t.sd then { t with s := t.s - t.s / 8 + r, w := t.w - t.w / 4 + dist r (t.s / 8) } else { t with sd := true, s := 8 * r, w := 2 * r }
def T.sett (t : T) : T := { t with v := clamp t.lo t.hi (t.s / 8 + max t.w 1) }
def T.sample (t : T) (r : Nat) : T := (t.reck (min r 4294967296)).sett
def T.back (t : T) : T := { t with v := min (2 * t.v) t.hi }
def T.Ok (t : T) : Prop := 1 ≤ t.lo ∧ t.lo ≤ t.v ∧ t.v ≤ t.hi ∧ t.hi ≤ 65536 ∧ t.s ≤ 34359738368 ∧ t.w ≤ 17179869184
theorem reck_bounds {t : T} (h : t.Ok) {r : Nat} (hr : r ≤ 4294967296) : (t.reck r).s ≤ 34359738368 ∧ (t.reck r).w ≤ 17179869184 ∧ (t.reck r).lo = t.lo ∧ (t.reck r).hi = t.hi ∧ (t.reck r).v = t.v ∧ (t.reck r).sd = true := by
  obtain ⟨_, _, _, _, h5, h6⟩ := h
  unfold T.reck dist
  by_cases hs : t.sd = true
  · simp only [hs, if_true]
    refine ⟨by omega, by omega, trivial, trivial, trivial, trivial⟩
  · simp only [hs, if_false, Bool.false_eq_true]
    refine ⟨by omega, by omega, trivial, trivial, trivial, trivial⟩
theorem clamp_in {lo hi n : Nat} (h : lo ≤ hi) : lo ≤ clamp lo hi n ∧ clamp lo hi n ≤ hi := by unfold clamp; omega
theorem sample_ok {t : T} (h : t.Ok) (r : Nat) : (t.sample r).Ok := by
  obtain ⟨b1, b2, b3, b4, b5, _⟩ := reck_bounds h (r := min r 4294967296) (by omega)
  have hh := h
  obtain ⟨h1, h2, h3, h4, h5, h6⟩ := hh
  have hc := clamp_in (lo := t.lo) (hi := t.hi) (n := (t.reck (min r 4294967296)).s / 8 + max (t.reck (min r 4294967296)).w 1) (by omega)
  refine ⟨?_, ?_, ?_, ?_, b1, b2⟩ <;> simp only [T.sample, T.sett, b3, b4] <;> omega
theorem back_ok {t : T} (h : t.Ok) : (t.back).Ok := by
  obtain ⟨h1, h2, h3, h4, h5, h6⟩ := h
  refine ⟨h1, ?_, ?_, h4, h5, h6⟩ <;> simp only [T.back] <;> omega
theorem back_more {t : T} (h : t.Ok) : t.v ≤ t.back.v := by
  obtain ⟨h1, h2, h3, h4, h5, h6⟩ := h
  simp only [T.back]
  omega
theorem sample_same (t : T) (r : Nat) : (t.sample r).lo = t.lo ∧ (t.sample r).hi = t.hi ∧ (t.sample r).sd = true := by
  unfold T.sample T.sett T.reck
  by_cases hs : t.sd = true
  · simp [hs]
  · simp [hs]
/-- Between the samples. -/
def T.Btw (t : T) (low high : Nat) : Prop := t.sd = true → 8 * low ≤ t.s ∧ t.s ≤ 8 * high + 7
theorem btw_sample {t : T} {low high : Nat} (h : t.Btw low high) (r : Nat) : (t.sample r).Btw (min low (min r 4294967296)) (max high (min r 4294967296)) := by
  intro _
  have e : (t.sample r).s = (t.reck (min r 4294967296)).s := rfl
  rw [e]
  generalize min r 4294967296 = q
  unfold T.reck
  by_cases hs : t.sd = true
  · obtain ⟨h1, h2⟩ := h hs
    simp only [hs, if_true]
    omega
  · simp only [hs, if_false, Bool.false_eq_true]
    omega
theorem btw_back {t : T} {low high : Nat} (h : t.Btw low high) : t.back.Btw low high := h
theorem btw_smooth {t : T} {low high : Nat} (h : t.Btw low high) (hs : t.sd = true) : low ≤ t.s / 8 ∧ t.s / 8 ≤ high := by
  obtain ⟨h1, h2⟩ := h hs
  omega
/-- What many samples that are alike come to. -/
def its (f : Nat → Nat) : Nat → Nat → Nat
  | 0, x => x
  | k + 1, x => its f k (f x)
def mny (r : Nat) : Nat → T → T
  | 0, t => t
  | k + 1, t => mny r k (t.sample r)
theorem mny_snoc (r : Nat) : ∀ (k : Nat) (t : T), mny r (k + 1) t = (mny r k t).sample r
  | 0, t => rfl
  | k + 1, t => mny_snoc r k (t.sample r)
theorem mny_add (r : Nat) : ∀ (k m : Nat) (t : T), mny r (k + m) t = mny r m (mny r k t)
  | 0, m, t => by rw [Nat.zero_add]; rfl
  | k + 1, m, t => by rw [Nat.succ_add]; exact mny_add r k m (t.sample r)
def fa (x : Nat) : Nat := x - x / 8
def fb (x : Nat) : Nat := x - (x + 7) / 8
def fw (x : Nat) : Nat := x - x / 4
theorem its_mono {f : Nat → Nat} (hf : ∀ a b, a ≤ b → f a ≤ f b) : ∀ (k : Nat) {a b : Nat}, a ≤ b → its f k a ≤ its f k b
  | 0, _, _, h => h
  | k + 1, _, _, h => its_mono hf k (hf _ _ h)
theorem fa_mono (a b : Nat) (h : a ≤ b) : fa a ≤ fa b := by unfold fa; omega
theorem fb_mono (a b : Nat) (h : a ≤ b) : fb a ≤ fb b := by unfold fb; omega
theorem fw_mono (a b : Nat) (h : a ≤ b) : fw a ≤ fw b := by unfold fw; omega
/-- One sample: the smoothed one comes nearer. -/
theorem near_step {t : T} (hs : t.sd = true) {r q : Nat} (hq : min r 4294967296 = q) : (t.sample r).s - 8 * q ≤ fa (t.s - 8 * q) ∧ 8 * q - (t.sample r).s ≤ fb (8 * q - t.s) := by
  have e : (t.sample r).s = (t.reck q).s := by rw [← hq]; rfl
  rw [e]
  unfold T.reck fa fb
  simp only [hs, if_true]
  omega
theorem near {r q : Nat} (hq : min r 4294967296 = q) : ∀ (k : Nat) {t : T} (x y : Nat), t.sd = true → t.s - 8 * q ≤ x → 8 * q - t.s ≤ y → (mny r k t).s - 8 * q ≤ its fa k x ∧ 8 * q - (mny r k t).s ≤ its fb k y
  | 0, t, x, y, _, h1, h2 => ⟨h1, h2⟩
  | k + 1, t, x, y, hs, h1, h2 => by
    obtain ⟨k1, k2⟩ := near_step hs hq
    exact near hq k (t := t.sample r) (fa x) (fb y) (sample_same t r).2.2 (Nat.le_trans k1 (fa_mono _ _ h1)) (Nat.le_trans k2 (fb_mono _ _ h2))
theorem mny_ok (r : Nat) : ∀ (k : Nat) {t : T}, t.Ok → (mny r k t).Ok
  | 0, _, h => h
  | k + 1, _, h => mny_ok r k (sample_ok h r)
theorem mny_same (r : Nat) : ∀ (k : Nat) (t : T), (mny r k t).lo = t.lo ∧ (mny r k t).hi = t.hi
  | 0, _ => ⟨rfl, rfl⟩
  | k + 1, t => by
    obtain ⟨h1, h2⟩ := mny_same r k (t.sample r)
    obtain ⟨k1, k2, _⟩ := sample_same t r
    exact ⟨h1.trans k1, h2.trans k2⟩
theorem mny_sd (r : Nat) : ∀ (k : Nat) {t : T}, t.sd = true → (mny r k t).sd = true
  | 0, _, h => h
  | k + 1, t, _ => mny_sd r k (sample_same t r).2.2
theorem still_step {t : T} (hs : t.sd = true) {r q : Nat} (hq : min r 4294967296 = q) (h : t.s / 8 = q) : (t.sample r).s = t.s ∧ (t.sample r).w = fw t.w := by
  have e : t.sample r = (t.reck q).sett := by rw [← hq]; rfl
  rw [e]
  unfold T.sett T.reck fw dist
  simp only [hs, if_true, h]
  refine ⟨?_, ?_⟩ <;> omega
theorem still {r q : Nat} (hq : min r 4294967296 = q) : ∀ (k : Nat) {t : T} (x : Nat), t.sd = true → t.s / 8 = q → t.w ≤ x → (mny r k t).s / 8 = q ∧ (mny r k t).w ≤ its fw k x
  | 0, t, x, _, h1, h2 => ⟨h1, h2⟩
  | k + 1, t, x, hs, h1, h2 => by
    obtain ⟨k1, k2⟩ := still_step hs hq h1
    exact still hq k (t := t.sample r) (fw x) (sample_same t r).2.2 (by rw [k1]; exact h1) (by rw [k2]; exact fw_mono _ _ h2)
theorem ends_a : its fa 200 34359738368 ≤ 7 := by decide +kernel
theorem ends_b : its fb 200 34359738368 = 0 := by decide +kernel
theorem ends_w : its fw 100 17179869184 ≤ 3 := by decide +kernel
/-- Behind 400 samples that are alike. -/
theorem steady {t : T} (h : t.Ok) (r : Nat) : ∃ n, min r 4294967296 ≤ n ∧ n ≤ min r 4294967296 + 10 ∧ (mny r 400 t).v = clamp t.lo t.hi n := by
  obtain ⟨q, hq⟩ : ∃ q, min r 4294967296 = q := ⟨_, rfl⟩
  have hq2 : q ≤ 4294967296 := by omega
  have h1 : (mny r 1 t).Ok := mny_ok r 1 h
  have s1 : (mny r 1 t).sd = true := (sample_same t r).2.2
  have h2 : (mny r 201 t).s / 8 = q ∧ (mny r 201 t).sd = true ∧ (mny r 201 t).Ok := by
    rw [show 201 = 1 + 200 from rfl, mny_add]
    obtain ⟨k1, k2⟩ := near hq 200 (t := mny r 1 t) 34359738368 34359738368 s1 (by have := h1.2.2.2.2.1; omega) (by omega)
    have a1 := ends_a
    have a2 := ends_b
    refine ⟨?_, mny_sd r 200 s1, mny_ok r 200 h1⟩
    omega
  have h3 : (mny r 301 t).s / 8 = q ∧ (mny r 301 t).w ≤ 3 ∧ (mny r 301 t).sd = true := by
    rw [show 301 = 201 + 100 from rfl, mny_add]
    obtain ⟨k1, k2⟩ := still hq 100 (t := mny r 201 t) 17179869184 h2.2.1 h2.1 h2.2.2.2.2.2.2.2
    exact ⟨k1, Nat.le_trans k2 ends_w, mny_sd r 100 h2.2.1⟩
  have h4 : (mny r 399 t).s / 8 = q ∧ (mny r 399 t).w ≤ its fw 98 3 ∧ (mny r 399 t).sd = true := by
    rw [show 399 = 301 + 98 from rfl, mny_add]
    obtain ⟨k1, k2⟩ := still hq 98 (t := mny r 301 t) 3 h3.2.2 h3.1 h3.2.1
    exact ⟨k1, k2, mny_sd r 98 h3.2.2⟩
  have e3 : its fw 98 3 ≤ 3 := by decide +kernel
  have h5 : (mny r 400 t).s / 8 = q ∧ (mny r 400 t).w ≤ fw 3 := by
    rw [show 400 = 399 + 1 from rfl, mny_snoc]
    obtain ⟨k1, k2⟩ := still_step h4.2.2 hq h4.1
    exact ⟨by rw [k1]; exact h4.1, by rw [k2]; exact fw_mono _ _ (Nat.le_trans h4.2.1 e3)⟩
  have e4 : fw 3 = 3 := rfl
  obtain ⟨b1, b2⟩ := mny_same r 400 t
  have ev : (mny r 400 t).v = clamp (mny r 400 t).lo (mny r 400 t).hi ((mny r 400 t).s / 8 + max (mny r 400 t).w 1) := by
    rw [show 400 = 399 + 1 from rfl, mny_snoc]
    generalize mny r 399 t = u
    rfl
  refine ⟨q + max (mny r 400 t).w 1, by omega, by omega, ?_⟩
  rw [ev, b1, b2, h5.1]
theorem clamp_mono {lo hi a b : Nat} (h : a ≤ b) : clamp lo hi a ≤ clamp lo hi b := by unfold clamp; omega
end Rt
end Go.Proofs.Ytednkcjmlpgipaa
