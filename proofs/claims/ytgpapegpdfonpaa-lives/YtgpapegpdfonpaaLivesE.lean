/-
  The statement on lives: its walk.
-/
import Derived.Test.YtgpapegpdfonpaaLivesC
import Derived.Test.YtgpapegpdfonpaaLivesD
namespace Go.Proofs.Ytgpapegpdfonpaa
set_option linter.unusedVariables false
set_option linter.unusedSimpArgs false
open Go.RowKit
attribute [local go_sem ↓] Go.wp_at_zero Go.wp_at_succ

/-- a step: its kind, its number, its point -/
structure SD where
  k : Int
  n : Int
  x : Int
  y : Int
def StepsAt (w : World) (a : Option Addr) (ss : List SD) : Prop := ∀ j, j < ss.length → ∃ b off, a = some ⟨b, off, none⟩ ∧ b < w.heap.size ∧ w.cell? ⟨b, off + j * 4, none⟩ = some (.int .i64 (ss.getD j ⟨0, 0, 0, 0⟩).k) ∧ w.cell? ⟨b, off + j * 4 + 1, none⟩ = some (.int .i64 (ss.getD j ⟨0, 0, 0, 0⟩).n) ∧ w.cell? ⟨b, off + j * 4 + 2, none⟩ = some (.int .i64 (ss.getD j ⟨0, 0, 0, 0⟩).x) ∧ w.cell? ⟨b, off + j * 4 + 2 + 1, none⟩ = some (.int .i64 (ss.getD j ⟨0, 0, 0, 0⟩).y)
theorem StepsAt.below {w w' : World} {a : Option Addr} {ss : List SD} (h : StepsAt w a ss) (hb : Below w.heap.size w w') : StepsAt w' a ss := fun j hj => by
  obtain ⟨b, off, e, hl, h0, h1, h2, h3⟩ := h j hj
  exact ⟨b, off, e, Nat.lt_of_lt_of_le hl hb.size, (hb.cell (p := ⟨b, off + j * 4, none⟩) hl).trans h0, (hb.cell (p := ⟨b, off + j * 4 + 1, none⟩) hl).trans h1, (hb.cell (p := ⟨b, off + j * 4 + 2, none⟩) hl).trans h2, (hb.cell (p := ⟨b, off + j * 4 + 2 + 1, none⟩) hl).trans h3⟩
def bd (n : Int) : Prop := -9223372036854775808 ≤ n ∧ n ≤ 9223372036854775807
def SFits (ss : List SD) : Prop := ∀ s ∈ ss, bd s.n ∧ bd s.x ∧ bd s.y
/-- two nets beside one another, alike -/
structure Two2 (w0 w : World) (tag : Nat → Nat) (dx dy : ND) (q : Nat) : Prop where
  x : NetIs w tag 1 dx
  y : NetIs w tag 3 dy
  tg : TagN w tag
  pts : dx.pts = dy.pts
  nums : dx.nums = dy.nums
  ever : dx.ever = dy.ever
  le : dx.ever ≤ q
  low : ∀ k, k < w0.heap.size → tag k = 0
  bel : Below w0.heap.size w0 w
section
variable {w0 w w1 w2 : World} {tag tag1 tag2 : Nat → Nat} {dx dy dx' dy' : ND} {q : Nat}
theorem Two2.bel1 (h : Two2 w0 w tag dx dy q) (hb : Below w.heap.size w w1) : Two2 w0 w1 tag dx dy q :=
  ⟨h.x.below hb, h.y.below hb, fun k hk => Nat.lt_of_lt_of_le (h.tg k hk) hb.size, h.pts, h.nums, h.ever, h.le, h.low, h.bel.trans (hb.mono h.bel.size)⟩
theorem Two2.both (h : Two2 w0 w tag dx dy q) (hx : NPost w w1 tag tag1 1 dx') (hy : NPost w1 w2 tag1 tag2 3 dy') (e1 : dx'.pts = dy'.pts) (e2 : dx'.nums = dy'.nums) (e3 : dx'.ever = dy'.ever) (e4 : dx'.ever ≤ q + 1) : Two2 w0 w2 tag2 dx' dy' (q + 1) := by
  have s1 := h.bel.size
  have s2 := hx.chg.size
  refine ⟨hy.other hx.net (by decide) (by decide) (by decide), hy.net, hy.tagged, e1, e2, e3, e4, fun k hk => ?_, ?_⟩
  · rw [hy.agree k (by omega), hx.agree k (by omega)]; exact h.low k hk
  · have b1 : Below w0.heap.size w w1 := hx.chg.below s1 fun k hk hF => by have := h.low k hk; omega
    have b2 : Below w0.heap.size w1 w2 := hy.chg.below (by omega) fun k hk hF => by
      rw [hx.agree k (by omega)] at hF
      have := h.low k hk; omega
    exact h.bel.trans (b1.trans b2)
end
theorem comesD_same {dx dy : ND} {p : Pt} (e1 : dx.pts = dy.pts) (e2 : dx.nums = dy.nums) (e3 : dx.ever = dy.ever) : (comesD dx p).pts = (comesD dy p).pts ∧ (comesD dx p).nums = (comesD dy p).nums ∧ (comesD dx p).ever = (comesD dy p).ever ∧ (comesD dx p).ever ≤ dx.ever + 1 ∧ (comesD dx p).X = dx.X ∧ (comesD dy p).X = dy.X := by
  unfold comesD
  rw [e1]
  by_cases c : p ∈ dy.pts ∨ dy.pts.length = 60
  · rw [if_pos c, if_pos c]; exact ⟨e1, e2, e3, by omega, rfl, rfl⟩
  · rw [if_neg c, if_neg c]; simp [e2, e3]
theorem goesD_same {dx dy : ND} {r : Int} (e1 : dx.pts = dy.pts) (e2 : dx.nums = dy.nums) (e3 : dx.ever = dy.ever) : (goesD dx r).pts = (goesD dy r).pts ∧ (goesD dx r).nums = (goesD dy r).nums ∧ (goesD dx r).ever = (goesD dy r).ever ∧ (goesD dx r).ever ≤ dx.ever ∧ (goesD dx r).X = dx.X ∧ (goesD dy r).X = dy.X := by
  unfold goesD
  rw [e1]
  by_cases c : dy.pts = []
  · rw [if_pos c, if_pos c]; exact ⟨e1, e2, e3, by omega, rfl, rfl⟩
  · rw [if_neg c, if_neg c]; simp [e2, e3]
/-- a net that is new -/
theorem net_new {w w1 : World} {tag : Nat → Nat} {i M X : Nat} (hT : TagN w tag) (hM : w.heap.size = M) (hX : w1.heap.size = X) (hP : PRow w1 M [] [] 0 (.slice none 0 0) (.slice none 0 0)) (hb : Below w.heap.size w w1) :
    NPost w (w1.alloc (.cells #[.pointer (some ⟨M, 0, none⟩), .slice none 0 0, .slice none 0 0, .int .i64 0] 49)) tag (fun k => if k = X then i else if k = M then i + 1 else tag k) i ⟨X, M, [], [], 0⟩ := by
  subst hM hX
  have hlt := hP.lt
  have hsz : (w1.alloc (.cells #[.pointer (some ⟨w.heap.size, 0, none⟩), .slice none 0 0, .slice none 0 0, .int .i64 0] 49)).heap.size = w1.heap.size + 1 := by simp
  have nn : ∀ g, (Value.slice none 0 0).ownBlock = some g → False := fun g h => by cases h
  refine ⟨fun k hk => ?_, fun k hk => ?_, ⟨_, _, _, _, ⟨heap_last _ _, ⟨rfl, .inl ⟨rfl, rfl⟩⟩, ⟨rfl, .inl ⟨rfl, rfl⟩⟩, hP.below (below1 _ _), ⟨rfl, by simp, (fun i h => by cases h), List.nodup_nil, List.Pairwise.nil, (fun n h => by cases h)⟩, if_pos rfl, (fun g hg => (nn g hg).elim), (fun g hg => (nn g hg).elim), ?_, (fun g hg => (nn g hg).elim), (fun g hg => (nn g hg).elim)⟩⟩, Chg.of_below (hb.trans ((below1 _ _).mono hb.size))⟩
  · have := hb.size
    simp only [if_neg (show k ≠ w1.heap.size by omega), if_neg (show k ≠ w.heap.size by omega)]
  · rw [hsz]
    by_cases c : k = w1.heap.size
    · omega
    · simp only [if_neg c] at hk
      by_cases c2 : k = w.heap.size
      · omega
      · simp only [if_neg c2] at hk
        have := hT k hk
        have := hb.size
        omega
  · show (if w.heap.size = w1.heap.size then i else if w.heap.size = w.heap.size then i + 1 else _) = i + 1
    rw [if_neg (by omega), if_pos rfl]
theorem twonets_new {w V1 V2 : World} {M1 X1 M2 X2 : Nat} (hw : w.heap.size = M1) (h1 : M1 < X1) (h2 : X1 < M2) (h3 : M2 < X2) (hM2 : V1.heap.size = M2) (HX : NPost w V1 (fun _ => 0) (fun k => if k = X1 then 1 else if k = M1 then 1 + 1 else 0) 1 ⟨X1, M1, [], [], 0⟩)
    (HY : NPost V1 V2 (fun k => if k = X1 then 1 else if k = M1 then 1 + 1 else 0) (fun k => if k = X2 then 3 else if k = M2 then 3 + 1 else if k = X1 then 1 else if k = M1 then 1 + 1 else 0) 3 ⟨X2, M2, [], [], 0⟩) :
    Two2 w V2 (fun k => if k = X2 then 3 else if k = M2 then 3 + 1 else if k = X1 then 1 else if k = M1 then 1 + 1 else 0) ⟨X1, M1, [], [], 0⟩ ⟨X2, M2, [], [], 0⟩ 0 := by
  refine ⟨HY.other HX.net (by decide) (by decide) (by decide), HY.net, HY.tagged, rfl, rfl, rfl, Nat.le_refl _, fun k hk => ?_, ?_⟩
  · simp only [if_neg (show k ≠ X2 by omega), if_neg (show k ≠ M2 by omega), if_neg (show k ≠ X1 by omega), if_neg (show k ≠ M1 by omega)]
  · have b1 : Below w.heap.size w V1 := HX.chg.below (Nat.le_refl _) fun k _ hF => by simp at hF
    have b2 : Below w.heap.size V1 V2 := HY.chg.below (by omega) fun k hk hF => by
      simp only [if_neg (show k ≠ X1 by omega), if_neg (show k ≠ M1 by omega)] at hF
      omega
    exact b1.trans b2

set_option maxRecDepth 100000 in
set_option maxHeartbeats 8000000 in
theorem lives_walk (a : Option Addr) (cap : Nat) (ss : List SD) (step : Int) (w : World) (hs : StepsAt w a ss) (hf : SFits ss) (t1 : -9223372036854775808 ≤ step) (t2 : step ≤ 9223372036854775807) (hm : ss.length ≤ maxLen) :
    Calls Try.prog 7 #[.slice a ss.length cap, .int .i64 step] w fun e w' => e = .returned (.bool true) ∧ Below w.heap.size w w' := by
  have HSA : Hid (StepsAt w a ss) := hs
  have HSF : Hid (SFits ss) := hf
  have HN1 := mnew_any w
  clear hs hf
  go_enter Try.func7, Try.ntmps7
  have HW : Hid (∃ M, w.heap.size = M) := ⟨_, rfl⟩
  go_upto_region 2 with (first | (go_at_call 18; refine HN1.mono ?_; rintro e w1 ⟨rfl, hP1, hb1⟩))
  have hlt1 := hP1.lt
  generalize hmx : w.heap.size = M1 at *
  generalize hXx : w1.heap.size = X1 at *
  have HX := net_new (w := w) (tag := fun _ => 0) (i := 1) (M := M1) (X := X1) (fun k hk => by simp at hk) hmx hXx hP1 (by rw [hmx]; exact hb1)
  have hszA : (w1.alloc (.cells #[.pointer (some ⟨M1, 0, none⟩), .slice none 0 0, .slice none 0 0, .int .i64 0] 49)).heap.size = X1 + 1 := by simp [hXx]
  generalize w1.alloc (.cells #[.pointer (some ⟨M1, 0, none⟩), .slice none 0 0, .slice none 0 0, .int .i64 0] 49) = V1 at *
  have HXH : Hid (NPost w V1 (fun _ => 0) (fun k => if k = X1 then 1 else if k = M1 then 1 + 1 else 0) 1 ⟨X1, M1, [], [], 0⟩) := HX
  have HN2 := mnew_any V1
  rw [hszA] at HN2
  have HM2 : Hid (V1.heap.size = X1 + 1) := hszA
  clear HX HN1 hP1 hb1 hszA hXx
  generalize hM2' : X1 + 1 = M2 at *
  have h12 : X1 < M2 := by omega
  clear hM2'
  go_upto_region 3 with (first | (go_at_call 18; refine HN2.mono ?_; rintro e w2 ⟨rfl, hP2, hb2⟩))
  have hlt2 := hP2.lt
  generalize hXy : w2.heap.size = X2 at *
  have HY := net_new (w := V1) (tag := fun k => if k = X1 then 1 else if k = M1 then 1 + 1 else 0) (i := 3) (M := M2) (X := X2) HXH.out.tagged HM2.out hXy hP2 (by rw [HM2.out]; exact hb2)
  generalize w2.alloc (.cells #[.pointer (some ⟨M2, 0, none⟩), .slice none 0 0, .slice none 0 0, .int .i64 0] 49) = V2 at *
  have hT0 := twonets_new hmx hlt1 h12 hlt2 HM2.out HXH.out HY
  obtain ⟨tag0, htag0⟩ : ∃ tag0 : Nat → Nat, tag0 = (fun k => if k = X2 then 3 else if k = M2 then 3 + 1 else if k = X1 then 1 else if k = M1 then 1 + 1 else 0) := ⟨_, rfl⟩
  rw [← htag0] at hT0
  have HT0 : Hid (Two2 w V2 tag0 ⟨X1, M1, [], [], 0⟩ ⟨X2, M2, [], [], 0⟩ 0) := hT0
  obtain ⟨_, _, _, _, hxn⟩ := hT0.x
  obtain ⟨_, _, _, _, hyn⟩ := hT0.y
  have cx : V2.cell? ⟨X1, 0, none⟩ = some (.pointer (some ⟨M1, 0, none⟩)) := hxn.cells.1
  have cy : V2.cell? ⟨X2, 0, none⟩ = some (.pointer (some ⟨M2, 0, none⟩)) := hyn.cells.1
  have HC1 := comes_any V2 tag0 1 ⟨X1, M1, [], [], 0⟩ 1 1 hT0.x hT0.tg (by decide) ⟨by omega, by omega, by omega, by omega⟩ (by simp)
  clear hT0 hxn hyn HY HXH HN2 hP2 hb2 htag0 HW hXy
  go_upto_region 6 with (first | (go_at_call 19; refine HC1.mono ?_; rintro e V3 ⟨rfl, tagX, hX3⟩))
  have hY3 : NetIs V3 tagX 3 ⟨X2, M2, [], [], 0⟩ := hX3.other HT0.out.y (by decide) (by decide) (by decide)
  have HC2 := comes_any V3 tagX 3 ⟨X2, M2, [], [], 0⟩ 1 1 hY3 hX3.tagged (by decide) ⟨by omega, by omega, by omega, by omega⟩ (by simp)
  have HX3 : Hid (NPost V2 V3 tag0 tagX 1 (comesD ⟨X1, M1, [], [], 0⟩ (1, 1))) := hX3
  clear hX3 hY3 HC1 cx cy
  go_upto_region 7 with (first | (go_at_call 19; refine HC2.mono ?_; rintro e V4 ⟨rfl, tagY, hY4⟩))
  have HT4 : Hid (∃ tag dx dy, Two2 w V4 tag dx dy 1 ∧ dx.X = X1 ∧ dy.X = X2) := by
    obtain ⟨e1, e2, e3, e4, e5, e6⟩ := comesD_same (dx := ⟨X1, M1, [], [], 0⟩) (dy := ⟨X2, M2, [], [], 0⟩) (p := (1, 1)) rfl rfl rfl
    exact ⟨tagY, _, _, HT0.out.both HX3.out hY4 e1 e2 e3 (by simpa using e4), e5, e6⟩
  clear HT0 HX3 hY4 HC2
  go_wp2_with fail
  go_loopw [7, 8, 9] (fun s7 s8 s9 wr => ∃ (k : Nat) (tag : Nat → Nat) (dx dy : ND), k ≤ ss.length ∧ k ≤ 80 ∧ s9 = .int .i64 k ∧ s7 = .bool true ∧ s8 = .bool true ∧ Two2 w wr tag dx dy (k + 1) ∧ dx.X = X1 ∧ dy.X = X2) (fun _ _ j _ => 80 - (intOf j).toNat)
  case atStart =>
    obtain ⟨tag, dx, dy, h1, h2, h3⟩ := HT4.out
    exact ⟨0, tag, dx, dy, Nat.zero_le _, by omega, rfl, rfl, rfl, h1, h2, h3⟩
  case round =>
    obtain ⟨k, tag, dx, dy, hk, hk80, rfl, rfl, rfl, hTw, hdx, hdy⟩ := hrel
    have HTW : Hid (Two2 w wr tag dx dy (k + 1)) := hTw
    have HBW : Hid (Below w.heap.size w wr) := hTw.bel
    clear hTw HT4
    by_cases hkl : k < ss.length ∧ k < 80
    · obtain ⟨hk1, hk2⟩ := hkl
      obtain ⟨b, off, rfl, hb, c0, c1, c2, c3⟩ := HSA.out.below HBW.out k hk1
      have hmem : ss.getD k ⟨0, 0, 0, 0⟩ ∈ ss := by
        have : ss.getD k ⟨0, 0, 0, 0⟩ = ss[k] := by simp [hk1]
        rw [this]; exact List.getElem_mem hk1
      obtain ⟨⟨n1, n2⟩, ⟨x1, x2⟩, ⟨z1, z2⟩⟩ := HSF.out _ hmem
      have y0 : (0 : Int) ≤ (k : Int) := by omega
      have y1 : (k : Int) < (ss.length : Int) := by omega
      have y2 : (k : Int) < 80 := by omega
      have y4 : IntKind.i64.wrap ((k : Int) + 1) = (k : Int) + 1 := wrap_id (by omega) (by omega)
      clear hmem
      generalize (ss.getD k ⟨0, 0, 0, 0⟩).k = kd at *
      generalize (ss.getD k ⟨0, 0, 0, 0⟩).n = nr at *
      generalize (ss.getD k ⟨0, 0, 0, 0⟩).x = xr at *
      generalize (ss.getD k ⟨0, 0, 0, 0⟩).y = yr at *
      go_upto_block 2 with fail
      go_cut [7, 8] (fun s7 s8 wx => s7 = .bool true ∧ s8 = .bool true ∧ ∃ tag' dx' dy', Two2 w wx tag' dx' dy' (k + 2) ∧ dx'.X = X1 ∧ dy'.X = X2)
      case first =>
        as_aux_lemma =>
        by_cases e1 : kd = 1
        · subst e1
          have HPT := point_any xr yr step wr x1 x2 z1 z2 t1 t2
          have HNP : Hid (Near (ptX xr step) (ptY yr step)) := near_pt xr yr step
          generalize ptX xr step = qx at *
          generalize ptY yr step = qy at *
          go_upto_region 13 with (first | (go_at_call 8; refine HPT.mono ?_; rintro e w5 ⟨rfl, hb5⟩))
          have hbB := below1 w5 (.cells #[.int .i64 qx, .int .i64 qy] 23)
          have d0 : (w5.alloc (.cells #[.int .i64 qx, .int .i64 qy] 23)).cell? ⟨w5.heap.size, 0, none⟩ = some (.int .i64 qx) := by rw [World.cell?_alloc_at _ _ _ _ (by simp)]; rfl
          have d1 : (w5.alloc (.cells #[.int .i64 qx, .int .i64 qy] 23)).cell? ⟨w5.heap.size, 1, none⟩ = some (.int .i64 qy) := by rw [World.cell?_alloc_at _ _ _ _ (by simp)]; rfl
          have hlt5 : w5.heap.size < (w5.alloc (.cells #[.int .i64 qx, .int .i64 qy] 23)).heap.size := by simp
          have HT5 : Hid (Two2 w (w5.alloc (.cells #[.int .i64 qx, .int .i64 qy] 23)) tag dx dy (k + 1)) := (HTW.out.bel1 hb5).bel1 hbB
          have ht0 : tag w5.heap.size = 0 := by
            by_cases c : tag w5.heap.size = 0
            · exact c
            · have := (HTW.out.bel1 hb5).tg _ c; omega
          generalize w5.alloc (.cells #[.int .i64 qx, .int .i64 qy] 23) = V5 at *
          generalize w5.heap.size = BP at *
          clear hb5 hbB HPT c0 c1 c2 c3
          have HCx := comes_any V5 tag 1 dx qx qy HT5.out.x HT5.out.tg (by decide) HNP.out (by have := HT5.out.le; omega)
          rw [hdx] at HCx
          go_upto_region 14 with (first | (go_at_call 19; refine HCx.mono ?_; rintro e V6 ⟨rfl, tagX, hX6⟩))
          have HX6 : Hid (NPost V5 V6 tag tagX 1 (comesD dx (qx, qy))) := hX6
          have hY6 : NetIs V6 tagX 3 dy := hX6.other HT5.out.y (by decide) (by decide) (by decide)
          have HCy := comes_any V6 tagX 3 dy qx qy hY6 hX6.tagged (by decide) HNP.out (by have := HT5.out.le; have := HT5.out.ever; omega)
          rw [hdy] at HCy
          have f0 := (hX6.chg.cell (o := 0) hlt5 (by rw [ht0]; decide)).trans d0
          have f1 := (hX6.chg.cell (o := 1) hlt5 (by rw [ht0]; decide)).trans d1
          clear hX6 hY6 HCx d0 d1
          go_wp2_with (first | (go_at_call 19; refine HCy.mono ?_; rintro e V7 ⟨rfl, tagY, hY7⟩))
          have HFT : Hid (∃ tag' dx' dy', Two2 w V7 tag' dx' dy' (k + 2) ∧ dx'.X = X1 ∧ dy'.X = X2) := by
            obtain ⟨g1, g2, g3, g4, g5, g6⟩ := comesD_same (p := (qx, qy)) HT5.out.pts HT5.out.nums HT5.out.ever
            exact ⟨tagY, _, _, HT5.out.both HX6.out hY7 g1 g2 g3 (by have := HT5.out.le; omega), g5.trans hdx, g6.trans hdy⟩
          clear hY7 HX6 HT5
          go_meet
          exact ⟨rfl, rfl, HFT.out⟩
        · have q1 : (kd == 1) = false := beq_eq_false_iff_ne.2 e1
          by_cases e2 : kd = 2
          · subst e2
            have HCx := goes_any wr tag 1 dx nr HTW.out.x HTW.out.tg (by decide) n1 n2
            rw [hdx] at HCx
            go_upto_region 17 with (first | (go_at_call 20; refine HCx.mono ?_; rintro e V6 ⟨rfl, tagX, hX6⟩))
            have HX6 : Hid (NPost wr V6 tag tagX 1 (goesD dx nr)) := hX6
            have hY6 : NetIs V6 tagX 3 dy := hX6.other HTW.out.y (by decide) (by decide) (by decide)
            have HCy := goes_any V6 tagX 3 dy nr hY6 hX6.tagged (by decide) n1 n2
            rw [hdy] at HCy
            have hbo : tag b = 0 := HTW.out.low b (by
              obtain ⟨b', off', e, hb', _⟩ := HSA.out k hk1
              cases e; exact hb')
            have f1 := (hX6.chg.cell (o := off + k * 4 + 1) hb (by rw [hbo]; decide)).trans c1
            have hb6 : b < V6.heap.size := Nat.lt_of_lt_of_le hb hX6.chg.size
            clear hX6 hY6 HCx c0 c1 c2 c3
            go_wp2_with (first | (go_at_call 20; refine HCy.mono ?_; rintro e V7 ⟨rfl, tagY, hY7⟩))
            have HFT : Hid (∃ tag' dx' dy', Two2 w V7 tag' dx' dy' (k + 2) ∧ dx'.X = X1 ∧ dy'.X = X2) := by
              obtain ⟨g1, g2, g3, g4, g5, g6⟩ := goesD_same (r := nr) HTW.out.pts HTW.out.nums HTW.out.ever
              exact ⟨tagY, _, _, HTW.out.both HX6.out hY7 g1 g2 g3 (by have := HTW.out.le; omega), g5.trans hdx, g6.trans hdy⟩
            clear hY7 HX6
            go_meet
            exact ⟨rfl, rfl, HFT.out⟩
          · have q2 : (kd == 2) = false := beq_eq_false_iff_ne.2 e2
            have HFT : Hid (∃ tag' dx' dy', Two2 w wr tag' dx' dy' (k + 2) ∧ dx'.X = X1 ∧ dy'.X = X2) := by
              have h := HTW.out
              exact ⟨tag, dx, dy, ⟨h.x, h.y, h.tg, h.pts, h.nums, h.ever, by have := h.le; omega, h.low, h.bel⟩, hdx, hdy⟩
            clear HTW
            go_wp2
            go_meet
            exact ⟨rfl, rfl, HFT.out⟩
      case rest =>
        as_aux_lemma =>
        obtain ⟨rfl, rfl, tag', dx', dy', hT', hdx', hdy'⟩ := hcut
        have HT' : Hid (Two2 w wc tag' dx' dy' (k + 2)) := hT'
        have HOKX : Hid (dx'.pts.Nodup) := by obtain ⟨_, _, _, _, h⟩ := hT'.x; exact h.ok.nd
        have HTx := ntris_any wc tag' 1 dx' hT'.x
        have HTy := fun V (hb : Below wc.heap.size wc V) => ntris_any V tag' 3 dy' (hT'.y.below hb)
        rw [hdx'] at HTx
        rw [hdy'] at HTy
        clear hT' HTW c0 c1 c2 c3
        generalize wc = W8 at *
        go_upto_region 20 with (first | (go_at_call 21; refine HTx.mono ?_; rintro e V6 ⟨vx, tsx, rfl, hox, hsx, hlx, hbx⟩))
        have HRX : Hid (V6.ownsRow W8.heap.size 42 3 vx tsx.length (flatT tsx) ∧ TriSpec dx'.pts tsx ∧ tsx.length ≤ 4000 ∧ Below W8.heap.size W8 V6) := ⟨hox, hsx, hlx, hbx⟩
        have HTy1 := HTy V6 hbx
        clear hox hsx hlx hbx HTx HTy
        go_upto_region 21 with (first | (go_at_call 21; refine HTy1.mono ?_; rintro e V7 ⟨vy, tsy, rfl, hoy, hsy, hly, hby⟩))
        have etx : tsx = tsy := TriSpec.unique HOKX.out HRX.out.2.1 (by rw [HT'.out.pts]; exact hsy)
        subst etx
        have HAL := alike_all (ts := tsx) V7 HRX.out.2.2.1 (ownB_below HRX.out.1 hby) hoy
        have HB7 : Hid (Below W8.heap.size W8 V7) := HRX.out.2.2.2.trans (hby.mono HRX.out.2.2.2.size)
        clear hoy hsy hly hby HTy1 HRX
        go_wp2_with (first | (go_at_call 17; refine HAL.mono ?_; rintro e V8 ⟨rfl, hb8⟩))
        have HF8 : Hid (Two2 w V8 tag' dx' dy' (k + 1 + 1)) := HT'.out.bel1 (HB7.out.trans (hb8.mono HB7.out.size))
        clear hb8 HAL HT' HB7
        go_roundw
        case rel => exact ⟨k + 1, tag', dx', dy', by omega, by omega, by go_num, rfl, rfl, HF8.out, hdx', hdy'⟩
        case measure => simp [intOf]; omega
    · by_cases hk1 : k < ss.length
      · have hk2 : ¬ k < 80 := fun h => hkl ⟨hk1, h⟩
        have y1 : (k : Int) < (ss.length : Int) := by omega
        have y2 : ¬ (k : Int) < 80 := by omega
        have y3 : decide ((k : Int) < 80) = false := decide_eq_false y2
        clear HTW hkl
        go_wp2
        go_ret
        exact ⟨rfl, by rw [← hmx]; exact HBW.out⟩
      · have y1 : ¬ (k : Int) < (ss.length : Int) := by omega
        have y3 : decide ((k : Int) < (ss.length : Int)) = false := decide_eq_false y1
        clear HTW hkl
        go_wp2
        go_ret
        exact ⟨rfl, by rw [← hmx]; exact HBW.out⟩
end Go.Proofs.Ytgpapegpdfonpaa
