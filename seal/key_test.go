package seal_test

import (
	"bytes"
	"testing"

	"pantile/api"
	"pantile/digest"
	"pantile/seal"
)

// known is a seal that others reckoned: its secret, public key, message and bytes.
type known struct {
	secret, public, msg, seal string
}

// published are RFC 8032's, but the longest; and those of a secret of noughts and of one of ones.
func published() []known {
	return []known{
		{"9d61b19deffd5a60ba844af492ec2cc44449c5697b326919703bac031cae7f60", "d75a980182b10ab7d54bfed3c964073a0ee172f3daa62325af021a68f707511a", "", "e5564300c360ac729086e2cc806e828a84877f1eb8e5d974d873e065224901555fb8821590a33bacc61e39701cf9b46bd25bf5f0595bbe24655141438e7a100b"},
		{"4ccd089b28ff96da9db6c346ec114e0f5b8a319f35aba624da8cf6ed4fb8a6fb", "3d4017c3e843895a92b70aa74d1b7ebc9c982ccf2ec4968cc0cd55f12af4660c", "72", "92a009a9f0d4cab8720e820b5f642540a2b27b5416503f8fb3762223ebdb69da085ac1e43e15996e458f3613d0f11d8c387b2eaeb4302aeeb00d291612bb0c00"},
		{"c5aa8df43f9f837bedb7442f31dcb7b166d38535076f094b85ce3a2e0b4458f7", "fc51cd8e6218a1a38da47ed00230f0580816ed13ba3303ac5deb911548908025", "af82", "6291d657deec24024827e69c3abe01a30ce548a284743a445e3680d7db5ac3ac18ff9b538d16f290ae67f760984dc6594a7c15e9716ed28dc027beceea1ec40a"},
		{"833fe62409237b9d62ec77587520911e9a759cec1d19755b7da901b96dca3d42", "ec172b93ad5e563bf4932c70e1245034c35467ef2efd4d64ebf819683467e2bf", "ddaf35a193617abacc417349ae20413112e6fa4e89a97ea20a9eeee64b55d39a2192992a274fc1a836ba3c23a3feebbd454d4423643ce80e2a9ac94fa54ca49f", "dc2a4459e7369633a52b1bf277839a00201009a3efbf3ecb69bea2186c26b58909351fc9ac90b3ecfdfbc7c66431e0303dca179c138ac17ad9bef1177331a704"},
		{"0000000000000000000000000000000000000000000000000000000000000000", "3b6a27bcceb6a42d62a3a8d02a6f0d73653215771de243a63ac048a18b59da29", "6c656166", "9a91767107302407b3d028e140a5e0cba5f4fa1df2a5ab46436d2b71a25988c4c471ed80be51c571bbb7e337f04eddca5610b8a63d0634af54bbcc992e1e1502"},
		{"ffffffffffffffffffffffffffffffffffffffffffffffffffffffffffffffff", "76a1592044a6e4f511265bca73a604d90b0529d1df602be30a19a9257660d1f5", "6c656166", "bc45398086efaf0002bcf297d2a7683635c072c240ff5fbafac9b25d12c8695d74ae904a2653a4f3da59401a329b6d34e9eefc55321dc3e70579027739131809"},
	}
}

// longer are seals of patterns of so many bytes: they end before, at and behind the ends of the digests' blocks.
func longer() map[int][2]string {
	return map[int][2]string{
		0:    {"4d0ec3a0d03fefff93a9bcce2a24b406d46f44aeff1f7787daedb13caafa402c", "065322d2dabcbe84183878b0f9bcec7497252fd1378ffaeb10e048db1dfd06b85dfb41d98aebd01eb71665fecb815dfaae61d72982d8821d758da52161265508"},
		1:    {"e4030998cfd5ad1723c169f956aa0b9eb8619b5992bd612c2af428ebc79f8df0", "4f43c65983437ec6569aa149aa6a61566dfe87399587b5b8824ade97bc9b03930e4fe3facba2938809385487e5bdaa3302a3fda7f9ae16c5db6651d68a6f9b0d"},
		47:   {"9f7a43543152c2245bf0a79ad1f5ed323b43e4570dd3661f56e78a11fb5d42d4", "9d5c12e944076416512556c2b8f1b603a5dbb84a158ed1a175e2194ed365232e6a9d223621a6c4fbe02e1fa5b86a79a726af3078378f352eb93538852a47aa08"},
		48:   {"c0c8edb22af1ee33ba4e91d31c745708db8eec5fa152e9e61ca0f37031e61452", "eb9f447f9137b880acdfdab82ff3f8c600b100d37edae4da97e37f54445a98be48247d7cc33b7ffb33b6ea93336837fc4ee40d7ff468567ec125df80005ffd02"},
		63:   {"bf530b2238c62b5f2af0f7fd9315320f2817f70bfd4f1b29e0f5d96b68d420c3", "d0f604afe8e5345a3a56d4168ae0953c3d8174128744df514e11b9c2cd1c2f3d2a5e8159df46cebb973b95a784d2571ccc42a93e34c69a14f0535711afed660b"},
		64:   {"736c085f92f40f6626e6c9e033a77d4f942cae71e5479d0417cbc562768c7b61", "4a4402df54dc38dd365df712842196da1db816cb452f84c224fda905fc8354eaaea7002b39a7d4737d2648e56444a1640496b94a6253b96520841d2b63a46a0f"},
		65:   {"16ce7449cf38284a17e85136c14142a475f16aab823008a4205440ba60c0dc00", "3db7023a9b4529f74824967b1dcfc6b9fb89112027aac12436b35442395a3216b341395f76bdb343757f588b627e0db460888cab943c530e6a1b0fb81a07710d"},
		79:   {"ec1b38085600ea5e525bb015851f37832f67decdda172e6414cac0d0faec6406", "924ce1926119ed46d6f7ee1b9bc1aacedfacdd0ded4809c9223b0879c8b03cb0ee6597428f2e73eac6cc637ea74be7981e2bae324f725a410c2c9b683b6c4401"},
		80:   {"c6c0a1caaa98c712ed4a9e85f33241cab5199ee323c56ad85e289cfb15cf4929", "c6e113a81d0bdb43124087acb05468113f767727f458b60e68a936a79a44486e7bd26f6216086bd479be6d340eeb138c71cf2b7ae952e6f7e3487209fa4e5f05"},
		127:  {"a40bdd18de64933d66e3152fbbfcb589e201b6794024281f33e12bf9d03d245e", "96f41f491b330c298e2e58722a0c5a65e843598674dc8a57800a4e23845392d1d513a839cb1e3f8f0c26b197de840eadedc82f605e8f2ccc67ee68324f788f07"},
		128:  {"46f8899f8f8072cdba554cb147350f4efb3f3625b447731752cbe7f901aa584a", "40800ed08315599909091f58f4a01e5e41dbe296d9f00aef01b3e383f1cc6182f8c11e11a2e69ad1961507b9c3263d16f9cf1edf1b164518a95207cb73d71b0f"},
		129:  {"ff4a1623a9b5bb972f3fd66bf91fd4e7590c0ecc3f23b76d74a1a4b0a6ad8350", "8df1dec9866a43235b1f3ca7e5b6213f38f130d19008d99e5bbd3f5a557346240116c2eeeb2c74e90be5621057deeb36b2c4fe819c8e19bfd7adfbce7268b802"},
		300:  {"2c6046c69e9ad97d82c0acc80ef6755555bf8841cdc0eb50935938657918c051", "37a82274602c987bb35310a04cc6de6fa54133255261f1abbf32fddd7b6bbda786f937c94013eb8427b952df878731a5792ef76601029fc2c2eafd393e657e0f"},
		1023: {"e3b32554e372efa248354da297eef6bddfa2593464f1f0a6a098ae2605d81e6c", "4e39ec108bc8535972a1477a3af18a1d9964afba81dcb6a29cb8b5b375cf8d152fde790a8b08f7459e65a2ab8de532c47233c89034e748935b406867884e4900"},
		5000: {"e8a9ec353d5f26e7ebd1b81ff0eb7b61f1f54699ecc806a50c9f135596817d25", "9b912c3ad0269c6d0d0157de5134df7009002e09a1e1581300da319eb2f4c9d657ab5c46df44033f5c3d16681971f3a780eebd59d286df52d926af34843ed608"},
	}
}

// P4.1: public keys and seals that others reckoned.
func TestKnownSeals(t *testing.T) {
	for _, l := range published() {
		k, msg := key(t, unhex(t, l.secret)), unhex(t, l.msg)
		are(t, "Public", k.Public(), unhex(t, l.public))
		are(t, "Seal", k.Seal(msg), unhex(t, l.seal))
		answers(t, "known", api.OK, unhex(t, l.public), msg, unhex(t, l.seal))
	}
	for many, l := range longer() {
		k, msg := key(t, pattern(32, 7, many)), pattern(many, 11, 5)
		are(t, "Public", k.Public(), unhex(t, l[0]))
		are(t, "Seal", k.Seal(msg), unhex(t, l[1]))
		answers(t, "known", api.OK, unhex(t, l[0]), msg, unhex(t, l[1]))
	}
}

// P4.1: public keys and seals are the model's, of messages of no bytes, of few, of many.
func TestKeysByTheModel(t *testing.T) {
	for i, secret := range secrets() {
		k, m := key(t, secret), modelOf(secret)
		are(t, "Public", k.Public(), m.public)
		for _, many := range []int{0, 1, i, 31 + i, 64 * i, 100000 * (i % 2)} {
			msg := pattern(many, i, many)
			are(t, "Seal", k.Seal(msg), m.seal(msg))
		}
	}
}

// P4.1: each bit that is laid down for a number is another one in some digest, so that the secrets tell whether it is laid down.
func TestSecretsTellEachBit(t *testing.T) {
	seen := map[int]int{}
	for _, secret := range secrets() {
		number := numberOf(digest.Sum512(secret)[:32])
		for _, bit := range []int{0, 1, 2, 254, 255} {
			seen[bit] |= 1 << number.Bit(bit)
		}
	}
	for bit, both := range seen {
		if both != 3 {
			t.Errorf("bit %d is always the same", bit)
		}
	}
}

// P4.1: a secret of another length than 32 gives no key.
func TestSecretsOfOtherLengths(t *testing.T) {
	lengths := []int{200, 1000, 65536}
	for length := range 130 {
		lengths = append(lengths, length)
	}
	for _, length := range lengths {
		for _, from := range []int{0, 9} {
			k, e := seal.New(pattern(length, from, from))
			if length == 32 && (e != api.OK || k == nil) || length != 32 && (e != api.ErrKey || k != nil) {
				t.Errorf("a secret of %d bytes: %v, %v", length, k, e)
			}
		}
	}
	if k, e := seal.New(nil); e != api.ErrKey || k != nil {
		t.Errorf("nil: %v, %v", k, e)
	}
}

// P4.1: nil is a message of no bytes, and a seal's length is 64, a public key's 32.
func TestNoMessage(t *testing.T) {
	for _, secret := range secrets() {
		k := key(t, secret)
		are(t, "nil", k.Seal(nil), k.Seal([]byte{}))
		if len(k.Seal(nil)) != 64 || len(k.Public()) != 32 {
			t.Errorf("%d and %d bytes", len(k.Seal(nil)), len(k.Public()))
		}
		answers(t, "nil", api.OK, k.Public(), nil, k.Seal([]byte{}))
		answers(t, "no bytes", api.OK, k.Public(), []byte{}, k.Seal(nil))
	}
}

// P4.1, R5: a key seals the same message the same way, whatever it sealed before.
func TestSealedAgain(t *testing.T) {
	secret := pattern(32, 5, 1)
	k := key(t, secret)
	was, public := k.Seal([]byte("leaf")), k.Public()
	for many := range 20 {
		k.Seal(pattern(many, 1, many))
		key(t, pattern(32, 5, 2+many)).Seal([]byte("leaf"))
		are(t, "Seal", k.Seal([]byte("leaf")), was)
		are(t, "Public", k.Public(), public)
	}
	are(t, "another of the same secret", key(t, secret).Seal([]byte("leaf")), was)
}

// P4.1: other secrets, and other messages, make other seals.
func TestSealsAreApart(t *testing.T) {
	seen := map[string]string{}
	for _, secret := range secrets() {
		k := key(t, secret)
		for _, msg := range []string{"", "\x00", "\x00\x00", "a", "b", "ab"} {
			made, from := string(k.Seal([]byte(msg))), string(secret)+msg
			if seen[made[:32]] != "" || seen[made[32:]] != "" {
				t.Errorf("%x of %x and of %x", made, from, seen[made])
			}
			seen[made[:32]], seen[made[32:]] = from, from
		}
	}
}

// R1: the zero Key comes of no call, but even it does not panic.
func TestZeroKeyEnds(t *testing.T) {
	var k seal.Key
	k.Public()
	k.Seal(nil)
	k.Seal(bytes.Repeat([]byte{1}, 100))
}
