/- The digests of no bytes, by the kernel: the folding written so that each word is reckoned once. -/
import Derived.Test.YthkajdmedijlfaaDoorDgHash
import Derived.Test.YthkajdmedijlfaaDoorDgWhole64
import Derived.KernelRfl
namespace Go.Proofs.YthkajdmedijlfaaDoor
open Go.RowKit

/-- The digest of 64 bytes of the bytes msg. -/
def dig64 (Ks sq msg : List Int) : List Int :=
  outW (stB (foldL64 Ks) sq 128 (msg ++ padL (endSize 128 16 msg.length) msg.length) ((msg ++ padL (endSize 128 16 msg.length) msg.length).length / 128)) 8
theorem dig64_of {Ks sq msg st : List Int}
    (h : ∀ s, Hid (s = endSize 128 16 msg.length) → Hid (∃ n', stB (foldL64 Ks) sq 128 (msg ++ padL s msg.length) n' = st ∧ 128 * n' ≤ (msg ++ padL s msg.length).length ∧ (msg ++ padL s msg.length).length < 128 * (n' + 1))) :
    outW st 8 = dig64 Ks sq msg := by
  obtain ⟨n', h1, h2, h3⟩ := (h _ (Lib.hid rfl)).out
  unfold dig64
  rw [show (msg ++ padL (endSize 128 16 msg.length) msg.length).length / 128 = n' by omega, h1]

/-- A number is reckoned before it is handed on. -/
def forceI {α : Type} (x : Int) (f : Int → α) : α := match x with
  | .ofNat 0 => f (.ofNat 0)
  | .ofNat (n + 1) => f (.ofNat (n + 1))
  | .negSucc n => f (.negSucc n)
theorem forceI_eq {α : Type} (x : Int) (f : Int → α) : forceI x f = f x := by
  unfold forceI
  split <;> rfl
def forceL {α : Type} (l : List Int) (f : List Int → α) : α := match l with
  | [] => f []
  | x :: r => forceI x fun x => forceL r fun r => f (x :: r)
theorem forceL_eq {α : Type} : ∀ (l : List Int) (f : List Int → α), forceL l f = f l
  | [], _ => rfl
  | x :: r, f => by rw [forceL, forceI_eq, forceL_eq r]
def forceS {α : Type} (s : St) (f : St → α) : α :=
  forceI s.a fun a => forceI s.b fun b => forceI s.c fun c => forceI s.d fun d => forceI s.e fun e => forceI s.f fun f' => forceI s.g fun g => forceI s.h fun h => f ⟨a, b, c, d, e, f', g, h⟩
theorem forceS_eq {α : Type} (s : St) (f : St → α) : forceS s f = f s := by simp only [forceS, forceI_eq]

/-- The row from its end, a word more. -/
def nextR (k : IntKind) (a b : Nat) (c : Int) (d e : Nat) (f : Int) (r : List Int) : Int :=
  k.wrap (threeS k (r.getD 1 0) d e f + r.getD 6 0 + threeS k (r.getD 14 0) a b c + r.getD 15 0)
def revT (k : IntKind) (a b : Nat) (c : Int) (d e : Nat) (f : Int) (r : List Int) : Nat → List Int
  | 0 => r
  | n + 1 => forceI (nextR k a b c d e f r) fun x => revT k a b c d e f (x :: r) n
theorem revT_succ (k : IntKind) (a b : Nat) (c : Int) (d e : Nat) (f : Int) : ∀ (n : Nat) (r : List Int), revT k a b c d e f r (n + 1) = nextR k a b c d e f (revT k a b c d e f r n) :: revT k a b c d e f r n
  | 0, r => by simp only [revT, forceI_eq]
  | n + 1, r => by
    rw [revT, forceI_eq, revT_succ k a b c d e f n]
    have h : revT k a b c d e f r (n + 1) = revT k a b c d e f (nextR k a b c d e f r :: r) n := by rw [revT, forceI_eq]
    rw [h]
theorem getD_rev (l : List Int) (j : Nat) (h : j < l.length) : l.reverse.getD j 0 = l.getD (l.length - 1 - j) 0 := by
  rw [List.getD_eq_getElem?_getD, List.getD_eq_getElem?_getD, List.getElem?_reverse h]
theorem moreW_rev (k : IntKind) (a b : Nat) (c : Int) (d e : Nat) (f : Int) (l : List Int) (hl : 16 ≤ l.length) : ∀ n, (moreW k a b c d e f l n).reverse = revT k a b c d e f l.reverse n
  | 0 => rfl
  | n + 1 => by
    have hn := moreW_length k a b c d e f l n
    rw [moreW, List.reverse_append, List.reverse_singleton, revT_succ, ← moreW_rev k a b c d e f l hl n]
    generalize moreW k a b c d e f l n = L at *
    rw [List.singleton_append]
    congr 1
    unfold nextW nextR
    rw [getD_rev L 1 (by omega), getD_rev L 6 (by omega), getD_rev L 14 (by omega), getD_rev L 15 (by omega)]
    rw [show L.length - 1 - 1 = L.length - 2 by omega, show L.length - 1 - 6 = L.length - 7 by omega, show L.length - 1 - 14 = L.length - 15 by omega, show L.length - 1 - 15 = L.length - 16 by omega]

/-- The steps, over the constants and the row. -/
def goT (k : IntKind) (p q r p' q' r' : Nat) : List Int → List Int → St → St
  | K :: Ks, W :: Ws, s => forceS (stepS k p q r p' q' r' K W s) fun s => goT k p q r p' q' r' Ks Ws s
  | _, _, s => s
theorem goT_snoc (k : IntKind) (p q r p' q' r' : Nat) (K W : Int) : ∀ (Ks Ws : List Int) (s : St), Ks.length = Ws.length →
    goT k p q r p' q' r' (Ks ++ [K]) (Ws ++ [W]) s = stepS k p q r p' q' r' K W (goT k p q r p' q' r' Ks Ws s)
  | [], [], s, _ => by simp only [List.nil_append, goT, forceS_eq]
  | a :: Ks, b :: Ws, s, h => by
    simp only [List.cons_append, goT, forceS_eq]
    exact goT_snoc k p q r p' q' r' K W Ks Ws _ (by simpa using h)
  | [], b :: Ws, _, h => by simp at h
  | a :: Ks, [], _, h => by simp at h
theorem stepsS_goT (k : IntKind) (p q r p' q' r' : Nat) (Ks L : List Int) (s : St) : ∀ n, n ≤ Ks.length → n ≤ L.length → stepsS k p q r p' q' r' Ks L s n = goT k p q r p' q' r' (Ks.take n) (L.take n) s
  | 0, _, _ => by simp [stepsS, goT]
  | n + 1, h1, h2 => by
    rw [stepsS, stepsS_goT k p q r p' q' r' Ks L s n (by omega) (by omega), List.take_succ_eq_append_getElem h1, List.take_succ_eq_append_getElem h2, goT_snoc k p q r p' q' r' _ _ _ _ _ (by simp; omega)]
    rw [List.getD_eq_getElem?_getD, List.getD_eq_getElem?_getD, List.getElem?_eq_getElem h1, List.getElem?_eq_getElem h2]
    rfl
def foldT (k : IntKind) (p q r p' q' r' : Nat) (a b : Nat) (c : Int) (d e : Nat) (f : Int) (size more steps : Nat) (Ks : List Int) (xs : Nat → Int) (st : List Int) : List Int :=
  forceL (words k size xs 16).reverse fun R => foldS k st (goT k p q r p' q' r' (Ks.take steps) ((revT k a b c d e f R more).reverse.take steps) (St.of st))
theorem fold_foldT (k : IntKind) (p q r p' q' r' : Nat) (a b : Nat) (c : Int) (d e : Nat) (f : Int) (size more steps : Nat) (Ks : List Int) (xs : Nat → Int) (st : List Int) (h1 : steps ≤ Ks.length) (h2 : steps ≤ 16 + more) :
    foldS k st (stepsS k p q r p' q' r' Ks (moreW k a b c d e f (words k size xs 16) more) (St.of st) steps) = foldT k p q r p' q' r' a b c d e f size more steps Ks xs st := by
  have hw := words_length k size xs 16
  have hl := moreW_length k a b c d e f (words k size xs 16) more
  unfold foldT
  rw [forceL_eq, ← moreW_rev k a b c d e f (words k size xs 16) (by omega) more, List.reverse_reverse, stepsS_goT k p q r p' q' r' Ks _ _ steps h1 (by omega)]

/-- The roots, as the program's tables hold them. -/
def sqL : List Int := [7640891576956012808, 13503953896175478587, 4354685564936845355, 11912009170470909681, 5840696475078001361, 11170449401992604703, 2270897969802886507, 6620516959819538809]
def cuL : List Int := [4794697086780616226, 8158064640168781261, 13096744586834688815, 16840607885511220156, 4131703408338449720, 6480981068601479193, 10538285296894168987, 12329834152419229976, 15566598209576043074, 1334009975649890238, 2608012711638119052, 6128411473006802146, 8268148722764581231, 9286055187155687089, 11230858885718282805, 13951009754708518548, 16472876342353939154, 17275323862435702243, 1135362057144423861, 2597628984639134821, 3308224258029322869, 5365058923640841347, 6679025012923562964, 8573033837759648693, 10970295158949994411, 12119686244451234320, 12683024718118986047, 13788192230050041572, 14330467153632333762, 15395433587784984357, 489312712824947311, 1452737877330783856, 2861767655752347644, 3322285676063803686, 5560940570517711597, 5996557281743188959, 7280758554555802590, 8532644243296465576, 9350256976987008742, 10552545826968843579, 11727347734174303076, 12113106623233404929, 14000437183269869457, 14369950271660146224, 15101387698204529176, 15463397548674623760, 17586052441742319658, 1182934255886127544, 1847814050463011016, 2177327727835720531, 2830643537854262169, 3796741975233480872, 4115178125766777443, 5681478168544905931, 6601373596472566643, 7507060721942968483, 8399075790359081724, 8693463985226723168, 9568029438360202098, 10144078919501101548, 10430055236837252648, 11840083180663258601, 13761210420658862357, 14299343276471374635, 14566680578165727644, 15097957966210449927, 16922976911328602910, 17689382322260857208, 500013540394364858, 748580250866718886, 1242879168328830382, 1977374033974150939, 2944078676154940804, 3659926193048069267, 4368137639120453308, 4836135668995329356, 5532061633213252278, 6448918945643986474, 6902733635092675308, 7801388544844847127]

def dig32T : List Int := outL (foldT .u32 6 11 25 2 13 22 7 18 8 17 19 1024 4 48 64 (cuL.map (· / 4294967296 % 4294967296)) (fun i => if i < 64 then (padL 64 0).getD (64 * 0 + i) 0 else 0) (sqL.map (· / 4294967296 % 4294967296))) 1
def dig64T : List Int := outW (foldT .u64 14 18 41 28 34 39 1 8 128 19 61 64 8 64 80 cuL (fun i => if i < 128 then (padL 128 0).getD (128 * 0 + i) 0 else 0) sqL) 1
set_option maxRecDepth 100000
theorem dig32T_eq : dig32T = [227, 176, 196, 66] := by kernel_rfl
theorem dig64T_eq : dig64T.take 4 = [207, 131, 225, 53] := by kernel_rfl
theorem outL_take (st : List Int) : (outL st 8).take 4 = outL st 1 := by
  simp [outL, List.range_succ, beL]
theorem outW_take (st : List Int) : (outW st 8).take 4 = (outW st 1).take 4 := by
  simp [outW, List.range_succ, beW]
theorem len32 : (([] : List Int) ++ padL (endSize 64 8 ([] : List Int).length) ([] : List Int).length).length / 64 = 1 := by kernel_rfl
theorem len64 : (([] : List Int) ++ padL (endSize 128 16 ([] : List Int).length) ([] : List Int).length).length / 128 = 1 := by kernel_rfl
theorem end32_nil : endSize 64 8 ([] : List Int).length = 64 := by kernel_rfl
theorem end64_nil : endSize 128 16 ([] : List Int).length = 128 := by kernel_rfl
theorem stB_one (fold : (Nat → Int) → List Int → List Int) (ini : List Int) (bs : Nat) (msg : List Int) : stB fold ini bs msg 1 = fold (fun i => if i < bs then msg.getD (bs * 0 + i) 0 else 0) ini := rfl
theorem dig32_nil : (dig32 cuL sqL []).take 4 = [227, 176, 196, 66] := by
  rw [← dig32T_eq]
  unfold dig32 dig32T
  rw [outL_take, len32, stB_one, end32_nil, List.nil_append, List.length_nil]
  unfold foldL32
  rw [fold_foldT .u32 6 11 25 2 13 22 7 18 8 17 19 1024 4 48 64 _ _ _ (by decide) (by decide)]
theorem dig64_nil : (dig64 cuL sqL []).take 4 = [207, 131, 225, 53] := by
  rw [← dig64T_eq]
  unfold dig64 dig64T
  rw [outW_take, len64, stB_one, end64_nil, List.nil_append, List.length_nil]
  unfold foldL64
  rw [fold_foldT .u64 14 18 41 28 34 39 1 8 128 19 61 64 8 64 80 _ _ _ (by decide) (by decide)]
end Go.Proofs.YthkajdmedijlfaaDoor
